import Derived.Test.YtadflolbgcdncaaQb
import Derived.Deep.Slices
/-! An image that is written over, and appended to. -/
namespace Go.Proofs.Ytadflolbgcdncaa
open Go.RowKit Go.Maps Plain
set_option linter.unusedVariables false
set_option linter.unusedSimpArgs false

/-- WHAT append DOES to a row of the call's own. -/
theorem run_append_row2 (w : World) (t tx ty : TypeId) (ht : Try.prog.underlying t = some (.slice 5)) (v x : Value) (l k : List Nat) (r : Option Nat) (hown : Own w v l r)
    (hk : ∀ c ∈ k, c < 256) (hs : Src Try.prog 1 tx x k.length (cellsOf k) w) (hlen : l.length + k.length ≤ 140737488355328) :
    ∃ v' w' r', (Builtin.append_ #[t, tx] ty #[v, x]).run Try.prog w = .ok v' w' ∧ Own w' v' (l ++ k) r' ∧ w.grownBy w' r ∧ (r' = r ∨ r' = some w.heap.size) ∧ (k ≠ [] → r' ≠ none) ∧ (∀ b j u, w.cell? ⟨b, j, none⟩ = some u → (r = some b → j < l.length) → w'.cell? ⟨b, j, none⟩ = some u) := by
  obtain ⟨i, hi, hz0, hz1, hz2⟩ := info_parts Try.info5
  have hby : ∀ c ∈ l ++ k, c < 256 := fun c hc => by
    rcases List.mem_append.mp hc with h | h
    · exact hown.1 c h
    · exact hk c h
  have hs' : Src Try.prog i.size tx x k.length (cellsOf k) w := by rw [hz1]; exact hs
  have hmax : l.length + k.length ≤ maxLen := by unfold maxLen; omega
  have grow : ∀ (base : Option Addr) (sCap : Nat), (Builtin.firstCells i.size l.length (.slice base l.length sCap)).run Try.prog w.drew = .ok (cellsOf l).toArray w.drew → sCap < l.length + k.length →
      ∃ v' w' r', (Builtin.append_ #[t, tx] ty #[.slice base l.length sCap, x]).run Try.prog w = .ok v' w' ∧ Own w' v' (l ++ k) r' ∧ w.grownBy w' r ∧ (r' = r ∨ r' = some w.heap.size) ∧ (k ≠ [] → r' ≠ none) ∧ (∀ b j u, w.cell? ⟨b, j, none⟩ = some u → (r = some b → j < l.length) → w'.cell? ⟨b, j, none⟩ = some u) := by
    intro base sCap hold hg
    have hr := run_append_grow_src (P := Try.prog) w t tx ty 5 i (.int .u8 0) ht hi hz0 base l.length sCap (cellsOf l) hold x k.length (cellsOf k) hs' hg (by omega) (by rw [hz2]; exact growslice_fits hg (by omega))
    have hge := grownCap_ge w (l.length + k.length) sCap 5
    have hcm := grownCap_le_maxLen w (l.length + k.length) sCap 5 hmax
    refine ⟨_, _, some w.heap.size, hr, ?_, ⟨rfl, rfl, rfl, by simp, fun k hk _ => Below.heap_alloc w.drew _ _ hk⟩, .inr rfl, by simp, fun b j u hu _ => by
      have hlt : b < w.drew.heap.size := cell_lt hu
      exact (World.cell?_of_block (w := w) (a := ⟨b, j, none⟩) (Below.heap_alloc w.drew _ _ hlt)).trans hu⟩
    have hl2 : (l ++ k).length = l.length + k.length := by simp
    have := Own.new w.drew ((cellsOf l ++ cellsOf k).toArray ++ Builtin.zeroCells (Value.int .u8 0).cells (grownCap w (l.length + k.length) sCap 5 - (l.length + k.length))) (l ++ k) (grownCap w (l.length + k.length) sCap 5) 5 hby
      (by rw [cellsOf_append, Array.size_append, List.size_toArray, cellsOf_len, size_zeroCells, hl2]; show _ + _ * 1 = _; omega) (by omega) hcm
      (fun j hj => by rw [cellsOf_append, Array.getElem?_append_left (by rw [List.size_toArray, cellsOf_len]; exact hj), List.getElem?_toArray]; exact cellsOf_get _ j hj)
    rw [hl2] at this
    exact this
  rcases hown.2 with ⟨rfl, rfl, rfl⟩ | ⟨g, cap, rfl, rfl, hg, h1, h2, h3, h4, h5⟩
  · by_cases hk0 : k = []
    · subst hk0
      refine ⟨.slice none 0 0, w, none, ?_, Own.nil w, ⟨rfl, rfl, rfl, Nat.le_refl _, fun _ _ _ => rfl⟩, .inl rfl, by simp, fun b j u hu _ => hu⟩
      exact run_append_nothing w t tx ty 5 i ht hi none 0 0 (Nat.le_refl _) x hs'
    · have hkl : 0 < k.length := List.length_pos_iff.mpr hk0
      exact grow none 0 (by rw [List.length_nil]; exact run_firstCells_none w.drew _ _ _ _) (by simpa using hkl)
  · by_cases hroom : l.length + k.length ≤ cap
    · have hr := run_append_room_src (P := Try.prog) w t tx ty 5 i ht hi g 0 l.length cap x k.length (cellsOf k) hs' hroom
        (fun j hj => by rw [hz1]; rw [cellsOf_len] at hj; simpa using h4 (l.length + j) (by omega))
        (fun j hj => by rw [hz1]; rw [cellsOf_len] at hj; simpa using h3 (l.length + j) (by omega))
      rw [hz1, Nat.zero_add, Nat.mul_one] at hr
      have hl2 : (l ++ k).length = l.length + k.length := by simp
      refine ⟨_, _, some g, hr, ⟨hby, .inr ⟨g, cap, rfl, by rw [hl2], ?_, by omega, h2, fun j hj => ?_, fun j hj => ?_, fun j hj => ?_⟩⟩, ?_, .inl rfl, by simp, fun b j u hu hj => ?_⟩
      · rw [setCells_size]; exact hg
      · rw [World.frozen?_setCells]; exact h3 j hj
      · exact isSome_setCells g _ _ w _ (h4 j hj)
      · by_cases hj' : j < l.length
        · rw [World.cell?_setCells_out g _ _ w _ (fun _ _ => .inl hj'), h5 j hj', getD_left l k hj']
        · have hj2 : j - l.length < k.length := by omega
          have := World.cell?_setCells_in g (cellsOf k) l.length w (fun m hm => h4 _ (by rw [cellsOf_len] at hm; omega)) (j - l.length) (by rw [cellsOf_len]; exact hj2)
          rw [show l.length + (j - l.length) = j by omega] at this
          rw [this, getD_right l k (by omega), ← cellsOf_get k _ hj2]
          rw [List.getElem?_eq_getElem (by rw [cellsOf_len]; exact hj2)]
      · exact grow_setCells w g _ _
      · rw [World.cell?_setCells_out g _ _ w _ (fun hb _ => .inl (hj (congrArg some hb.symm)))]; exact hu
    · refine grow _ cap ?_ (by omega)
      rw [hz1]
      refine run_firstCells_some w.drew 1 l.length ⟨g, 0, none⟩ _ _ (cellsOf l) (by rw [cellsOf_len, Nat.mul_one]) (fun j u hj => ?_)
      have hjl : j < l.length := by
        have := (List.getElem?_eq_some_iff.mp hj).1
        rwa [cellsOf_len] at this
      rw [WideShapes.add_plain, Nat.zero_add]
      show w.cell? ⟨g, j, none⟩ = some u
      rw [h5 j hjl, ← cellsOf_get l j hjl, hj]

theorem wpList_append_row2 {ops : Array Oper} {rest : List Oper} {o : Oper} {a : Act} {Q : Exit → Act → World → Prop} (w : World) (hgd : o.guard = none) (s x : Operand) (t tx : TypeId)
    (ho : o.op = .call { callee := .builtin .append, args := #[s, x], argTypes := #[t, tx] }) (ht : Try.prog.underlying t = some (.slice 5)) (v xv : Value) (l k : List Nat) (r : Option Nat)
    (hs : a.eval s = v) (hx : a.eval x = xv) (hown : Own w v l r) (hk : ∀ c ∈ k, c < 256) (hsrc : Src Try.prog 1 tx xv k.length (cellsOf k) w) (hlen : l.length + k.length ≤ 140737488355328)
    (h : ∀ v' w' r', Own w' v' (l ++ k) r' → w.grownBy w' r → (r' = r ∨ r' = some w.heap.size) → (k ≠ [] → r' ≠ none) → (∀ b j u, w.cell? ⟨b, j, none⟩ = some u → (r = some b → j < l.length) → w'.cell? ⟨b, j, none⟩ = some u) → wpList Try.prog ops Q rest (a.put o.dst v') w') : wpList Try.prog ops Q (o :: rest) a w :=
  wpList_plain hgd fun _ hK => by
    obtain ⟨v', w', r', hr, h1, h2, h3, h4, h5⟩ := run_append_row2 w t tx o.type ht v xv l k r hown hk hsrc hlen
    unfold Oper.wp execOp
    simp only [ho, resolve, invoke, builtin, Sem.run_bind, Sem.run_pure, Result.andThen_ok, List.map_toArray, List.map_cons, List.map_nil, hs, hx, hr]
    exact hK _ _ (h v' w' r' h1 h2 h3 h4 h5)

theorem Own.setB {w : World} {g m cap : Nat} {l : List Nat} (h : Own w (.slice (some ⟨g, 0, none⟩) m cap) l (some g)) (k c : Nat) (hk : k < l.length) (hc : c < 256) : Own (w.setCell ⟨g, k, none⟩ (.int .u8 (c : Int))) (.slice (some ⟨g, 0, none⟩) m cap) (l.set k c) (some g) := by
  obtain ⟨hb, h0 | ⟨g', cap', e1, e2, hg, h1, h2, h3, h4, h5⟩⟩ := h
  · obtain ⟨_, _, h⟩ := h0; simp at h
  simp only [Option.some.injEq] at e1
  subst e1
  simp only [Value.slice.injEq] at e2
  obtain ⟨_, rfl, rfl⟩ := e2
  refine ⟨fun x hx => ?_, .inr ⟨g, cap, rfl, by rw [List.length_set], by simpa using hg, by rw [List.length_set]; exact h1, h2, fun j hj => ?_, fun j hj => ?_, fun j hj => ?_⟩⟩
  · rcases List.mem_or_eq_of_mem_set hx with h | h
    · exact hb x h
    · omega
  · rw [World.frozen?_setCell]; exact h3 j hj
  · obtain ⟨u, hu⟩ := Option.isSome_iff_exists.mp (h4 j hj)
    obtain ⟨u', hu'⟩ := cell?_setCell_some (p := ⟨g, k, none⟩) (x := .int .u8 (c : Int)) hu
    rw [hu']; rfl
  · rw [List.length_set] at hj
    by_cases e : j = k
    · subst e
      rw [World.cell?_setCell_same _ _ _ (h5 j hj)]
      simp [List.getD_eq_getElem?_getD, hj]
    · rw [World.cell?_setCell_other _ _ _ _ (by simp only [ne_eq, Addr.mk.injEq]; omega), h5 j hj]
      congr 2
      simp [List.getD_eq_getElem?_getD, Ne.symm e]
end Go.Proofs.Ytadflolbgcdncaa

/-! An image that is written over, and appended to: what is true of it meanwhile. -/
namespace Go.Proofs.Ytadflolbgcdncaa
open Go.RowKit Go.Deep Go.Maps Plain
set_option linter.unusedVariables false
set_option linter.unusedSimpArgs false

abbrev Sl := Nat → Option Addr × Nat × Nat
abbrev sv (sl : Sl) (j : Nat) : Value := .slice (sl j).1 (sl j).2.1 (sl j).2.2
/-- Where the files' bytes of an image lie. -/
structure Lie (w0 : World) (b m : Nat) (sl : Sl) (blk : Nat → Option Nat) (base : Nat) : Prop where
  cell : ∀ j, j < m → w0.cell? ⟨b, j * 2 + 1, none⟩ = some (sv sl j)
  b1 : 0 < m → base ≤ b ∧ b < w0.heap.size
  b3 : base ≤ w0.heap.size
  blk1 : ∀ j g, blk j = some g → base ≤ g ∧ g ≠ b ∧ g < w0.heap.size
  apart : ∀ i j g, blk i = some g → blk j = some g → i = j
  slb : ∀ j g o, j < m → (sl j).1 = some ⟨g, o, none⟩ → o = 0 ∧ blk j = some g
/-- Its bytes are L; from o on they lie in rows of their own still. -/
structure Sat (w0 wx : World) (b m : Nat) (sl : Sl) (blk : Nat → Option Nat) (base o : Nat) (L : Nat → List Nat) : Prop where
  blkb : 0 < m → wx.heap[b]? = w0.heap[b]?
  below : Below base w0 wx
  own : ∀ j, o ≤ j → j < m → Own wx (sv sl j) (L j) (blk j)
  byt : ∀ j, j < m → BytesAt wx (sv sl j) (L j)
  len : ∀ j, j < m → (L j).length = (sl j).2.1 ∧ (sl j).2.1 ≤ (sl j).2.2 ∧ (sl j).2.2 ≤ 2 ^ 63 - 1
theorem Sat.cell {w0 wx : World} {b m : Nat} {sl : Sl} {blk : Nat → Option Nat} {base o : Nat} {L : Nat → List Nat} (hl : Lie w0 b m sl blk base) (h : Sat w0 wx b m sl blk base o L) {j : Nat} (hj : j < m) : wx.cell? ⟨b, j * 2 + 1, none⟩ = some (sv sl j) := by
  rw [World.cell?_of_block (w := w0) (a := ⟨b, j * 2 + 1, none⟩) (h.blkb (by omega))]
  exact hl.cell j hj
theorem ImgAt.lie {w : World} {a : Option Addr} {l c : Nat} {im : List (Nm × List Nat)} {base : Nat} (h : ImgAt w (.slice a l c) im base) (hb : base ≤ w.heap.size) : l = im.length ∧ l ≤ c ∧ c ≤ 2 ^ 63 - 1 ∧ ∃ b sl blk L, (0 < im.length → a = some ⟨b, 0, none⟩) ∧ Lie w b im.length sl blk base ∧ Sat w w b im.length sl blk base 0 L ∧ ∀ j, j < im.length → L j = (im.getD j ([], [])).2 := by
  obtain ⟨ts, r, blk, hm⟩ := h
  have hl := hm.len
  obtain ⟨a', c', e, hc1, hc2⟩ := hm.row.shape
  simp only [Value.slice.injEq] at e
  obtain ⟨rfl, rfl, rfl⟩ := e
  unfold maxLen at hc1
  have each : ∀ j, j < im.length → ∃ t : Option Addr × Nat × Nat, ts[j]? = some ⟨str (im.getD j ([], [])).1, .slice t.1 t.2.1 t.2.2⟩ ∧ Own w (.slice t.1 t.2.1 t.2.2) (im.getD j ([], [])).2 (blk j) := fun j hj => by
    have hp : im[j]? = some (im.getD j ([], [])) := by simp [List.getD_eq_getElem?_getD, hj]
    obtain ⟨dv, e1, ho⟩ := hm.one j _ hp
    obtain ⟨x, y, z, rfl⟩ := isSliceO ho
    exact ⟨(x, y, z), e1, ho⟩
  obtain ⟨sl, hsl⟩ := choose_lt each
  have hb' : ∃ b, (0 < im.length → a = some ⟨b, 0, none⟩ ∧ r = some b) := by
    rcases hm.row with ⟨_, e, _⟩ | ⟨g, cap, hr, e, _⟩
    · exact ⟨0, fun h0 => by rw [e] at hl; simp at hl; omega⟩
    · simp only [Value.slice.injEq] at e
      exact ⟨g, fun _ => ⟨e.1, hr⟩⟩
  obtain ⟨b, hb'⟩ := hb'
  refine ⟨hl, hc2, by omega, b, sl, fun j => if 0 < im.length then blk j else none, fun j => (im.getD j ([], [])).2, fun h0 => (hb' h0).1, ⟨fun j hj => ?_, fun h0 => ?_, hb, fun j g e => ?_, fun i j g h1 h2 => ?_, fun j g o hj e => ?_⟩, ⟨fun _ => rfl, Below.refl _ _, fun j _ hj => ?_, fun j hj => (hsl j hj).2.bytes, fun j hj => ?_⟩, fun j hj => rfl⟩
  · have hrow := hm.row
    rw [(hb' (by omega)).2] at hrow
    have := (hrow.at (j := j) (by omega)).2
    have e2 : ts.getD j Fi.none = ⟨str (im.getD j ([], [])).1, sv sl j⟩ := by simp [List.getD_eq_getElem?_getD, (hsl j hj).1]
    rw [e2] at this
    exact this
  · have hr := (hb' h0).2
    have hrow := hm.row
    rw [hr] at hrow
    exact ⟨hm.rbase b hr, hrow.lt⟩
  · split at e
    · rename_i h0
      refine ⟨(hm.bbase j g e).1, fun e2 => (hm.bbase j g e).2 (by rw [(hb' h0).2, e2]), hm.live e⟩
    · simp at e
  · split at h1
    · rename_i h0
      rw [if_pos h0] at h2
      exact hm.apart i j g h1 h2
    · simp at h1
  · rw [if_pos (show 0 < im.length by omega)]
    have ho := (hsl j hj).2
    rw [e] at ho
    obtain ⟨_, h0 | ⟨g', cap', e1, e2, _⟩⟩ := ho
    · simp at h0
    · simp only [Value.slice.injEq, Option.some.injEq, Addr.mk.injEq, and_true] at e2
      exact ⟨e2.1.2, by rw [e1, e2.1.1]⟩
  · simp only [if_pos (show 0 < im.length by omega)]
    exact (hsl j hj).2
  · have ho := (hsl j hj).2
    have h1 := own_len ho
    obtain ⟨h2, h3⟩ := own_cap ho
    exact ⟨h1, h2, h3⟩
/-- A byte is written. -/
theorem Sat.write {w0 wx : World} {b m : Nat} {sl : Sl} {blk : Nat → Option Nat} {base : Nat} {L : Nat → List Nat} (hl : Lie w0 b m sl blk base) (h : Sat w0 wx b m sl blk base 0 L) {i k c : Nat} (hi : i < m) (hk : k < (L i).length) (hc : c < 256) :
    ∃ g, (sl i).1 = some ⟨g, 0, none⟩ ∧ wx.frozen? ⟨g, k, none⟩ = false ∧ (∃ u, wx.cell? ⟨g, k, none⟩ = some u) ∧ Sat w0 (wx.setCell ⟨g, k, none⟩ (.int .u8 (c : Int))) b m sl blk base 0 (upd L i ((L i).set k c)) := by
  have ho := h.own i (Nat.zero_le _) hi
  have ho' := ho
  obtain ⟨hb, h0 | ⟨g, cap, e1, e2, hg, h1, h2, h3, h4, h5⟩⟩ := ho
  · rw [h0.2.1] at hk; simp at hk
  have hsl : (sl i).1 = some ⟨g, 0, none⟩ := by
    simp only [Value.slice.injEq] at e2
    exact e2.1
  obtain ⟨q1, q2, q3⟩ := hl.blk1 i g e1
  have hgr := grow_set wx g k (.int .u8 (c : Int))
  have oth : ∀ j, j ≠ i → ∀ g', blk j = some g' → g' ≠ g := fun j hj g' e e2 => hj (hl.apart j i g (by rw [e, e2]) e1)
  have hset : Own (wx.setCell ⟨g, k, none⟩ (.int .u8 (c : Int))) (sv sl i) ((L i).set k c) (blk i) := by
    have := ho'
    unfold sv at this ⊢
    rw [hsl, e1] at this
    rw [hsl, e1]
    exact this.setB k c hk hc
  have hoth : ∀ j, j ≠ i → j < m → Own (wx.setCell ⟨g, k, none⟩ (.int .u8 (c : Int))) (sv sl j) (L j) (blk j) := fun j hj hjm => (h.own j (Nat.zero_le _) hjm).kept hgr (by
    cases e : blk j with
    | none => exact .inl rfl
    | some g' => exact .inr (fun e3 => oth j hj g' e (by simpa using e3)))
  refine ⟨g, hsl, h3 k (by omega), Option.isSome_iff_exists.mp (h4 k (by omega)), ⟨fun hm => ?_, ?_, fun j _ hj => ?_, fun j hj => ?_, fun j hj => ?_⟩⟩
  · rw [hgr.block b (by have := (hl.b1 hm).2; have := h.below.size; omega) (by simp; omega)]
    exact h.blkb hm
  · exact h.below.trans (grow_below hgr (by have := h.below.size; have := hl.b3; omega) (fun g' e => by simp at e; omega))
  · by_cases e : j = i
    · rw [e, upd_same]; exact hset
    · rw [upd_other _ _ _ _ e]; exact hoth j e hj
  · by_cases e : j = i
    · rw [e, upd_same]; exact hset.bytes
    · rw [upd_other _ _ _ _ e]; exact (hoth j e hj).bytes
  · by_cases e : j = i
    · rw [e, upd_same, List.length_set]; exact h.len i hi
    · rw [upd_other _ _ _ _ e]; exact h.len j hj
theorem Sat.off {w0 wx : World} {b m : Nat} {sl : Sl} {blk : Nat → Option Nat} {base o o' : Nat} {L : Nat → List Nat} (h : Sat w0 wx b m sl blk base o L) (ho : o ≤ o') : Sat w0 wx b m sl blk base o' L := ⟨h.blkb, h.below, fun j hj => h.own j (by omega), h.byt, h.len⟩
theorem Sat.later {w0 wx wy : World} {b m : Nat} {sl : Sl} {blk : Nat → Option Nat} {base o : Nat} {L : Nat → List Nat} (hl : Lie w0 b m sl blk base) (h : Sat w0 wx b m sl blk base o L) (hb : Below wx.heap.size wx wy) : Sat w0 wy b m sl blk base o L :=
  ⟨fun hm => by rw [hb.block b (by have := (hl.b1 hm).2; have := h.below.size; omega)]; exact h.blkb hm, h.below.trans (hb.mono (by have := h.below.size; have := hl.b3; omega)), fun j hj hjm => (h.own j hj hjm).later hb, fun j hj => (h.byt j hj).later hb, h.len⟩
/-- Bytes are put behind those of file i, in its own room or in new memory. -/
theorem Sat.appended {w0 wx wy : World} {b m : Nat} {sl : Sl} {blk : Nat → Option Nat} {base i : Nat} {L : Nat → List Nat} {r : Option Nat} {n : Nat} (hl : Lie w0 b m sl blk base) (h : Sat w0 wx b m sl blk base (i + 1) L) (hi : i < m) (hg : wx.grownBy wy r) (hr : ∀ g, r = some g → base ≤ g ∧ g ≠ b ∧ ∀ j, j ≠ i → blk j ≠ some g)
    (hk : ∀ b j u, wx.cell? ⟨b, j, none⟩ = some u → (r = some b → j < n) → wy.cell? ⟨b, j, none⟩ = some u) (hn : (L i).length ≤ n) : Sat w0 wy b m sl blk base (i + 1) L := by
  refine ⟨fun hm => ?_, h.below.trans (grow_below hg (by have := h.below.size; have := hl.b3; omega) (fun g e => (hr g e).1)), fun j hj hjm => (h.own j hj hjm).kept hg ?_, fun j hj => ?_, h.len⟩
  · rw [hg.block b (by have := (hl.b1 hm).2; have := h.below.size; omega) (fun e => (hr b e.symm).2.1 rfl)]
    exact h.blkb hm
  · cases e : blk j with
    | none => exact .inl rfl
    | some g => exact .inr (fun e2 => (hr g e2.symm).2.2 j (by omega) e)
  · by_cases hji : j = i
    · subst hji
      obtain ⟨a, cap, e, b1, b2, b3, b4⟩ := h.byt j hj
      refine ⟨a, cap, e, b1, b2, b3, fun hne => ?_⟩
      obtain ⟨bb, off, e2, b5⟩ := b4 hne
      have e3 : (sl j).1 = some ⟨bb, off, none⟩ := by
        simp only [Value.slice.injEq] at e
        rw [e.1, e2]
      obtain ⟨e4, _⟩ := hl.slb j bb off hj e3
      subst e4
      refine ⟨bb, 0, e2, fun t ht => hk bb (0 + t) _ (b5 t ht) (fun _ => by omega)⟩
    · by_cases hge : i + 1 ≤ j
      · exact ((h.own j hge hj).kept hg (by
          cases e : blk j with
          | none => exact .inl rfl
          | some g => exact .inr (fun e2 => (hr g e2.symm).2.2 j hji e))).bytes
      · obtain ⟨a, cap, e, b1, b2, b3, b4⟩ := h.byt j hj
        refine ⟨a, cap, e, b1, b2, b3, fun hne => ?_⟩
        obtain ⟨bb, off, e2, b5⟩ := b4 hne
        have e3 : (sl j).1 = some ⟨bb, off, none⟩ := by
          simp only [Value.slice.injEq] at e
          rw [e.1, e2]
        exact ⟨bb, off, e2, fun t ht => hk bb (off + t) _ (b5 t ht) (fun e4 => absurd (hl.slb j bb off hj e3).2 ((hr bb e4).2.2 j hji))⟩
end Go.Proofs.Ytadflolbgcdncaa

/-! An image that is written over, and appended to: the law's spoil. -/
namespace Go.Proofs.Ytadflolbgcdncaa
open Go.RowKit Go.Maps Plain
set_option linter.unusedVariables false
set_option linter.unusedSimpArgs false

set_option maxHeartbeats 40000000 in
set_option maxRecDepth 1000000 in
theorem spoilOf (w : World) (a : Option Addr) (l c : Nat) (im : List (Nm × List Nat)) (base : Nat) (h : ImgAt w (.slice a l c) im base) (hb : base ≤ w.heap.size) (hm : im.length ≤ 65536) (hsz : ∀ j, (im.getD j ([], [])).2.length ≤ 1073741824) :
    Calls Try.prog 27 #[.slice a l c] w fun e w' => e = .returned (.bool true) ∧ Below base w w' := by
  obtain ⟨rfl, hlc, hcm, b, sl, blk, L0, ha, hlie, hsat, hL0⟩ := h.lie hb
  generalize hM : im.length = m at *
  have HLE : Hid (Lie w b m sl blk base) := hlie
  have HA : Hid (0 < m → a = some ⟨b, 0, none⟩) := ha
  have HS0 : Hid (Sat w w b m sl blk base 0 L0 ∧ ∀ j, j < m → (L0 j).length ≤ 1073741824) := ⟨hsat, fun j hj => by rw [hL0 j hj]; exact hsz j⟩
  clear hlie hsat hL0 h ha hsz hM hb
  go_enter Try.func27, Try.ntmps27
  go_wp2
  go_loopg [3] m (fun gk s3 wx => ∃ (i : Nat), i + gk = m ∧ s3 = .int .i64 i ∧ Hid (∃ L, Sat w wx b m sl blk base 0 L ∧ (∀ j, j < m → (L j).length ≤ 1073741824) ∧ ∀ j, j < i → ∀ x ∈ L j, x = j % 100 + 1))
  case atStart => exact ⟨0, by omega, rfl, L0, HS0.out.1, HS0.out.2, fun j hj => by omega⟩
  case round =>
    obtain ⟨i, hi, rfl, HV⟩ := hrel
    cases gk with
    | succ gk1 =>
      have him : i < m := by omega
      obtain rfl : a = some ⟨b, 0, none⟩ := HA.out (by omega)
      obtain ⟨L, hs, hl, hg⟩ := HV.out
      obtain ⟨ai, ni, ci, hsl⟩ : ∃ x y z, sl i = (x, y, z) := ⟨_, _, _, rfl⟩
      obtain ⟨q1, q2, q3⟩ := hs.len i him
      rw [hsl] at q1 q2 q3
      simp only at q1 q2 q3
      have HH : Hid (∃ L, Sat w wr b m sl blk base 0 L ∧ (∀ j, j < m → (L j).length ≤ 1073741824) ∧ (∀ j, j < i → ∀ x ∈ L j, x = j % 100 + 1) ∧ ∀ t, t < 0 → (L i).getD t 0 = i % 100 + 1) := ⟨L, hs, hl, hg, fun t ht => by omega⟩
      have HSL : Hid (sl i = (ai, ni, ci)) := hsl
      have HCELL : Hid (∀ wx L, Sat w wx b m sl blk base 0 L → wx.cell? ⟨b, i * 2 + 1, none⟩ = some (.slice ai ni ci)) := fun wx L hx => by
        have := hx.cell HLE.out him
        unfold sv at this
        rw [HSL.out] at this
        exact this
      have hni : ni ≤ 1073741824 := by rw [← q1]; exact hl i him
      have htm : (i : Int).tmod 100 = ((i % 100 : Nat) : Int) := by rw [Int.tmod_eq_emod_of_nonneg (by omega)]; omega
      obtain ⟨cc, hcc⟩ : ∃ cc, i % 100 = cc := ⟨_, rfl⟩
      have hc100 : cc < 100 := by omega
      rw [hcc] at htm
      have HCC : Hid (i % 100 = cc) := hcc
      have hw1 : IntKind.i64.wrap ((cc : Int) + 1) = (cc : Int) + 1 := by rw [IntKind.wrap_i64]; omega
      have hw2 : IntKind.u8.wrap ((cc : Int) + 1) = (cc : Int) + 1 := by rw [IntKind.wrap_u8]; omega
      clear hs hl hg hsl HV q1 hcc
      go_wp2
      go_loopg [4] ni (fun g2 s4 wx => ∃ (k : Nat), k + g2 = ni ∧ s4 = .int .i64 k ∧ Hid (∃ L, Sat w wx b m sl blk base 0 L ∧ (∀ j, j < m → (L j).length ≤ 1073741824) ∧ (∀ j, j < i → ∀ x ∈ L j, x = j % 100 + 1) ∧ ∀ t, t < k → (L i).getD t 0 = i % 100 + 1))
      case atStart => exact ⟨0, by omega, rfl, HH.out⟩
      case round =>
        obtain ⟨k, hk, rfl, HV⟩ := hrel
        obtain ⟨L, hs, hl, hg, hgi⟩ := HV.out
        have hcell := HCELL.out _ L hs
        cases gk with
        | zero =>
          obtain rfl : k = ni := by omega
          have HN : Hid (∃ L, Sat w wr b m sl blk base 0 L ∧ (∀ j, j < m → (L j).length ≤ 1073741824) ∧ ∀ j, j < i + 1 → ∀ x ∈ L j, x = j % 100 + 1) := by
            refine ⟨L, hs, hl, fun j hj x hx => ?_⟩
            by_cases e : j = i
            · subst e
              obtain ⟨t, ht, rfl⟩ := List.mem_iff_getElem.mp hx
              have h1 := (hs.len j him).1
              rw [HSL.out] at h1
              simp only at h1
              have := hgi t (by omega)
              rw [List.getD_eq_getElem?_getD, List.getElem?_eq_getElem ht] at this
              exact this
            · exact hg j (by omega) x hx
          clear hs hl hg hgi HV
          go_wp2
          go_roundg gk1
          case measure => omega
          case rel => exact ⟨i + 1, by omega, by go_num, HN.out⟩
        | succ g3 =>
          have hlen := (hs.len i him).1
          rw [HSL.out] at hlen
          simp only at hlen
          obtain ⟨g, e1, hfz, ⟨u, hu⟩, hs'⟩ := hs.write HLE.out him (k := k) (c := cc + 1) (by omega) (by omega)
          rw [HSL.out] at e1
          simp only at e1
          subst e1
          have hcast : ((cc + 1 : Nat) : Int) = (cc : Int) + 1 := by omega
          rw [hcast] at hs'
          have HN : Hid (∃ L', Sat w (wr.setCell ⟨g, k, none⟩ (.int .u8 ((cc : Int) + 1))) b m sl blk base 0 L' ∧ (∀ j, j < m → (L' j).length ≤ 1073741824) ∧ (∀ j, j < i → ∀ x ∈ L' j, x = j % 100 + 1) ∧ ∀ t, t < k + 1 → (L' i).getD t 0 = i % 100 + 1) := by
            refine ⟨_, hs', fun j hj => ?_, fun j hj x hx => ?_, fun t ht => ?_⟩
            · by_cases e : j = i
              · rw [e, upd_same, List.length_set]; exact hl i him
              · rw [upd_other _ _ _ _ e]; exact hl j hj
            · rw [upd_other _ _ _ _ (by omega)] at hx
              exact hg j hj x hx
            · rw [upd_same, HCC.out]
              by_cases e : t = k
              · subst e
                rw [List.getD_eq_getElem?_getD, List.getElem?_set_self (by omega)]
                rfl
              · have := hgi t (by omega)
                rw [HCC.out] at this
                rw [List.getD_eq_getElem?_getD, List.getElem?_set_ne (Ne.symm e), ← List.getD_eq_getElem?_getD]
                exact this
          clear hs hl hg hgi HV hs'
          go_wp2
          go_roundg g3
          case measure => omega
          case rel => exact ⟨k + 1, by omega, by go_num, HN.out⟩
    | zero =>
      have e0 : m = i := by omega
      subst e0
      obtain ⟨L, hs, hl, hg⟩ := HV.out
      have HS : Hid (Sat w wr b m sl blk base 0 L ∧ (∀ j, j < m → (L j).length ≤ 1073741824) ∧ ∀ j, j < m → ∀ x ∈ L j, x = j % 100 + 1) := ⟨hs, hl, hg⟩
      clear hs hl hg HV HS0
      go_wp2
      go_loopg [5, 6] m (fun g2 s5 s6 wx => ∃ (i nv : Nat), i + g2 = m ∧ s6 = .int .i64 i ∧ s5 = .int .i64 nv ∧ 64 * i ≤ nv ∧ nv ≤ i * 1073741888 ∧ Hid (Sat w wx b m sl blk base i L))
      case atStart => exact ⟨0, 0, by omega, rfl, rfl, by omega, by omega, HS.out.1⟩
      case round =>
        obtain ⟨i, nv, hi2, rfl, rfl, hnv1, hnv2, HV⟩ := hrel
        cases gk with
        | succ gk1 =>
          have him : i < m := by omega
          obtain rfl : a = some ⟨b, 0, none⟩ := HA.out (by omega)
          obtain ⟨ai, ni, ci, hsl⟩ : ∃ x y z, sl i = (x, y, z) := ⟨_, _, _, rfl⟩
          have hs := HV.out
          obtain ⟨q1, q2, q3⟩ := hs.len i him
          have hcell := hs.cell HLE.out him
          have hown := hs.own i (Nat.le_refl _) him
          unfold sv at hcell hown
          rw [hsl] at q1 q2 q3 hcell hown
          simp only at q1 q2 q3 hcell hown
          have hni : ni ≤ 1073741824 := by rw [← q1]; exact HS.out.2.1 i him
          have HQ1 : Hid ((L i).length = ni) := q1
          have H0 : Hid (∃ r7 ks, Own wr (.slice ai ni ci) (L i ++ ks) r7 ∧ ks.length = 0 ∧ (∀ g, r7 = some g → base ≤ g ∧ g ≠ b ∧ ∀ j, j ≠ i → blk j ≠ some g) ∧ Sat w wr b m sl blk base (i + 1) L) := ⟨blk i, [], by rw [List.append_nil]; exact hown, rfl, fun g e => ⟨(HLE.out.blk1 i g e).1, (HLE.out.blk1 i g e).2.1, fun j hj e2 => hj (HLE.out.apart j i g e2 e)⟩, hs.off (by omega)⟩
          have htm : (i : Int).tmod 100 = ((i % 100 : Nat) : Int) := by rw [Int.tmod_eq_emod_of_nonneg (by omega)]; omega
          obtain ⟨cc, hcc⟩ : ∃ cc, i % 100 = cc := ⟨_, rfl⟩
          have hc100 : cc < 100 := by omega
          rw [hcc] at htm
          have hw1 : IntKind.i64.wrap ((cc : Int) + 101) = (cc : Int) + 101 := by rw [IntKind.wrap_i64]; omega
          have hw2 : IntKind.u8.wrap ((cc : Int) + 101) = (cc : Int) + 101 := by rw [IntKind.wrap_u8]; omega
          clear hs hown hsl HV q1 hcc
          go_wp2
          go_loopg [7, 8] 64 (fun g2 s7 s8 wx => ∃ (k : Nat) (a7 : Option Addr) (n7 c7 : Nat), k + g2 = 64 ∧ s8 = .int .i64 k ∧ s7 = .slice a7 n7 c7 ∧ n7 = ni + k ∧ n7 ≤ c7 ∧ c7 ≤ 2 ^ 63 - 1 ∧ Hid (∃ r7 ks, Own wx (.slice a7 n7 c7) (L i ++ ks) r7 ∧ ks.length = k ∧ (∀ g, r7 = some g → base ≤ g ∧ g ≠ b ∧ ∀ j, j ≠ i → blk j ≠ some g) ∧ Sat w wx b m sl blk base (i + 1) L))
          case atStart => exact ⟨0, ai, ni, ci, by omega, rfl, rfl, by omega, q2, q3, H0.out⟩
          case round =>
            obtain ⟨k, a7, n7, c7, hk, rfl, rfl, hn7, hn8, hn9, HV⟩ := hrel
            cases gk with
            | zero =>
              have HN : Hid (Sat w wr b m sl blk base (i + 1) L) := by
                obtain ⟨r7, ks, _, _, _, h4⟩ := HV.out
                exact h4
              obtain rfl : k = 64 := by omega
              clear HV H0
              go_wp2
              go_roundg gk1
              case measure => omega
              case rel => exact ⟨i + 1, nv + n7, by omega, by go_num, by go_num, by omega, by omega, HN.out⟩
            | succ g3 =>
              obtain ⟨r7, ks, ho, hks, hr7, hsat⟩ := HV.out
              have HO : Hid (Own wr (.slice a7 n7 c7) (L i ++ ks) r7) := ho
              have HR7 : Hid (∀ g, r7 = some g → base ≤ g ∧ g ≠ b ∧ ∀ j, j ≠ i → blk j ≠ some g) := hr7
              have HSA : Hid (Sat w wr b m sl blk base (i + 1) L) := hsat
              have HKS : Hid (ks.length = k) := hks
              have hlsz := HQ1.out
              have hcast : ((cc + 101 : Nat) : Int) = (cc : Int) + 101 := by omega
              have hsr := src_one wr (cc + 101) 22 5 Try.underlying22
              rw [hcast] at hsr
              have HSR : Hid (Src Try.prog 1 22 (.slice (some ⟨wr.heap.size, 0, none⟩) 1 1) [cc + 101].length (cellsOf [cc + 101]) (wr.alloc (.cells #[.int .u8 ((cc : Int) + 101)] 5))) := hsr
              clear ho hr7 hsat hks hsr hcast HV
              go_wp2_with (at_builtin; refine wpList_append_row2 _ rfl _ _ 22 22 rfl Try.underlying22 _ _ (L i ++ ks) [cc + 101] r7 rfl rfl ?hOwn ?hByte ?hSrc ?hLen ?_)
              case hOwn => exact HO.out.later ((Below.refl _ _).alloc (Nat.le_refl _) _)
              case hByte => intro x hx; simp at hx; omega
              case hSrc => exact HSR.out
              case hLen => have := HKS.out; simp; omega
              intro v4 w4 r4 ho4 hg4 hr4 hn4 hk4
              obtain ⟨a4, n4, c4, rfl⟩ := isSliceO ho4
              have hl4 := own_len ho4
              obtain ⟨y1, y2⟩ := own_cap ho4
              have hn4' : n4 = ni + (k + 1) := by have := HKS.out; simp at hl4; omega
              have hbA : Below wr.heap.size wr (wr.alloc (.cells #[.int .u8 ((cc : Int) + 101)] 5)) := (Below.refl _ _).alloc (Nat.le_refl _) _
              have hszA : (wr.alloc (.cells #[.int .u8 ((cc : Int) + 101)] 5)).heap.size = wr.heap.size + 1 := by simp
              have HN : Hid (∃ r7 ks, Own w4 (.slice a4 n4 c4) (L i ++ ks) r7 ∧ ks.length = k + 1 ∧ (∀ g, r7 = some g → base ≤ g ∧ g ≠ b ∧ ∀ j, j ≠ i → blk j ≠ some g) ∧ Sat w w4 b m sl blk base (i + 1) L) := by
                refine ⟨r4, ks ++ [cc + 101], by first | exact ho4 | (rw [← List.append_assoc]; exact ho4), by simp [HKS.out], fun g e => ?_, ?_⟩
                · rcases hr4 with h | h
                  · exact HR7.out g (by rw [← h]; exact e)
                  · rw [h] at e
                    simp at e
                    have h1 := HSA.out.below.size
                    have h2 := HLE.out.b3
                    refine ⟨by omega, fun e2 => ?_, fun j _ e2 => ?_⟩
                    · have := (HLE.out.b1 (by omega)).2; omega
                    · have := (HLE.out.blk1 j g e2).2.2; omega
                · exact (HSA.out.later HLE.out hbA).appended HLE.out him hg4 HR7.out (n := ni + ks.length) (by first | exact hk4 | (intro b' j' u' h1 h2; exact hk4 b' j' u' h1 (fun e => by have := h2 e; simp; omega))) (by have := HQ1.out; omega)
              clear ho4 hg4 hr4 hn4 hk4 HSR HO HR7 HSA
              go_wp2
              go_roundg g3
              case measure => omega
              case rel => exact ⟨k + 1, _, _, _, by omega, by go_num, rfl, hn4', y1, y2, HN.out⟩
        | zero =>
          have e1 : m = i := by omega
          subst e1
          have HSF : Hid (Sat w wr b m sl blk base m L) := HV.out
          have hnv3 : (64 : Int) * (m : Int) ≤ (nv : Int) := by omega
          clear HV
          go_wp2
          go_loopg [9] m (fun g2 s9 wx => ∃ (i : Nat), i + g2 = m ∧ s9 = .int .i64 i ∧ Hid (Sat w wx b m sl blk base m L))
          case atStart => exact ⟨0, by omega, rfl, HSF.out⟩
          case round =>
            obtain ⟨i, hi3, rfl, HSX⟩ := hrel
            cases gk with
            | zero =>
              have HF : Hid (Below base w wr) := HSX.out.below
              go_wp2
              go_ret
              exact ⟨rfl, HF.out⟩
            | succ gk1 =>
              have him : i < m := by omega
              obtain rfl : a = some ⟨b, 0, none⟩ := HA.out (by omega)
              obtain ⟨ai, ni, ci, hsl⟩ : ∃ x y z, sl i = (x, y, z) := ⟨_, _, _, rfl⟩
              obtain ⟨q1, q2, q3⟩ := HSX.out.len i him
              rw [hsl] at q1 q2 q3
              simp only at q1 q2 q3
              have HCELL : Hid (∀ wx, Sat w wx b m sl blk base m L → wx.cell? ⟨b, i * 2 + 1, none⟩ = some (.slice ai ni ci) ∧ BytesAt wx (.slice ai ni ci) (L i)) := fun wx hx => by
                have h1 := hx.cell HLE.out him
                have h2 := hx.byt i him
                unfold sv at h1 h2
                rw [hsl] at h1 h2
                exact ⟨h1, h2⟩
              have htm : (i : Int).tmod 100 = ((i % 100 : Nat) : Int) := by rw [Int.tmod_eq_emod_of_nonneg (by omega)]; omega
              obtain ⟨cc, hcc⟩ : ∃ cc, i % 100 = cc := ⟨_, rfl⟩
              have hc100 : cc < 100 := by omega
              rw [hcc] at htm
              have HCC : Hid (∀ x ∈ L i, x = cc + 1) := fun x hx => by rw [← hcc]; exact HS.out.2.2 i him x hx
              have hw1 : IntKind.i64.wrap ((cc : Int) + 1) = (cc : Int) + 1 := by rw [IntKind.wrap_i64]; omega
              have hw2 : IntKind.u8.wrap ((cc : Int) + 1) = (cc : Int) + 1 := by rw [IntKind.wrap_u8]; omega
              have HQ1 : Hid ((L i).length = ni) := q1
              clear hsl q1 hcc
              go_wp2
              go_loopg [10] ni (fun g2 s10 wx => ∃ (k : Nat), k + g2 = ni ∧ s10 = .int .i64 k ∧ Hid (Sat w wx b m sl blk base m L))
              case atStart => exact ⟨0, by omega, rfl, HSX.out⟩
              case round =>
                obtain ⟨k, hk, rfl, HSY⟩ := hrel
                obtain ⟨hcell, hbyt⟩ := HCELL.out _ HSY.out
                cases gk with
                | zero =>
                  obtain rfl : k = ni := by omega
                  clear hbyt
                  go_wp2
                  go_roundg gk1
                  case measure => omega
                  case rel => exact ⟨i + 1, by omega, by go_num, HSY.out⟩
                | succ g3 =>
                  obtain ⟨a', cap', e1, b1, b2, b3, b4⟩ := hbyt
                  have hlen := HQ1.out
                  have hne : L i ≠ [] := by intro e; rw [e] at hlen; simp at hlen; omega
                  obtain ⟨bb, off, e2, b5⟩ := b4 hne
                  simp only [Value.slice.injEq] at e1
                  obtain ⟨rfl, hxx, rfl⟩ := e1
                  subst e2
                  have hbk := b5 k (by omega)
                  have hval : (L i).getD k 0 = cc + 1 := by
                    have hkl : k < (L i).length := by omega
                    rw [List.getD_eq_getElem?_getD, List.getElem?_eq_getElem hkl]
                    exact HCC.out _ (List.getElem_mem hkl)
                  rw [hval, show ((cc + 1 : Nat) : Int) = (cc : Int) + 1 by omega] at hbk
                  clear b1 b2 b3 b4 b5 hval hne hxx hlen
                  go_wp2
                  go_roundg g3
                  case measure => omega
                  case rel => exact ⟨k + 1, by omega, by go_num, HSY.out⟩
end Go.Proofs.Ytadflolbgcdncaa

/-! Three disks side by side. -/
namespace Go.Proofs.Ytadflolbgcdncaa
open Go.RowKit Go.Maps Plain
set_option linter.unusedVariables false
set_option linter.unusedSimpArgs false

/-- Three disks that share nothing, and have nothing to do with the blocks Q. -/
def Trio (Q : Nat → Prop) (a b c : Nat) (ka kb kc : Dk) (w : World) : Prop := ∃ T, Duo (fun x => Q x ∨ T x) a c ka kc w ∧ DiskAt w b kb T ∧ ∀ x, T x → ¬ Q x
theorem Trio.later {Q : Nat → Prop} {a b c : Nat} {ka kb kc : Dk} {w w' : World} (h : Trio Q a b c ka kb kc w) (hb : Below w.heap.size w w') : Trio Q a b c ka kb kc w' := by
  obtain ⟨T, h1, h2, h3⟩ := h
  exact ⟨T, h1.later hb, h2.later hb, h3⟩
/-- What only later memory has seen. -/
theorem Trio.hold {Q : Nat → Prop} {a b c : Nat} {ka kb kc : Dk} {w w' : World} (h : Trio Q a b c ka kb kc w) (hb : Below w.heap.size w w') : Trio Q a b c ka kb kc w' := h.later hb
theorem Trio.ac {Q : Nat → Prop} {a b c : Nat} {ka kb kc : Dk} {w : World} (h : Trio Q a b c ka kb kc w) : ∃ Q', Duo Q' a c ka kc w ∧ (∀ x, Q x → Q' x) ∧ ∀ ka' kc' w', Duo Q' a c ka' kc' w' → Keep Q' w w' → Trio Q a b c ka' kb kc' w' := by
  obtain ⟨T, h1, h2, h3⟩ := h
  exact ⟨_, h1, fun x hx => .inl hx, fun ka' kc' w' hd hk => ⟨T, hd, h2.frame hk.size (fun x hx => hk.block x (.inr hx)), h3⟩⟩
theorem Trio.bb {Q : Nat → Prop} {a b c : Nat} {ka kb kc : Dk} {w : World} (h : Trio Q a b c ka kb kc w) : ∃ P, DskP P w b kb w ∧ (∀ x, Q x → P x) ∧ ∀ kb' w', DskP P w b kb' w' → Trio Q a b c ka kb' kc w' ∧ Keep Q w w' := by
  obtain ⟨T, ⟨S, U, d1, d2, s1, s2, s3⟩, h2, h3⟩ := h
  refine ⟨fun x => Q x ∨ S x ∨ U x, ⟨Keep.refl (fun x hx => ?_), T, h2, fun x hx hp => ?_⟩, fun x hx => .inl hx, fun kb' w' hd => ?_⟩
  · rcases hx with hx | hx | hx
    · exact s3 x (.inl hx)
    · exact d1.rng x hx
    · exact d2.rng x hx
  · rcases hp with hp | hp | hp
    · exact h3 x hx hp
    · exact (s1 x hp).2 (.inr hx)
    · exact s2 x hp (.inr hx)
  · obtain ⟨k1, T', e1, e2⟩ := hd
    refine ⟨⟨T', ⟨S, U, d1.frame k1.size (fun x hx => k1.block x (.inr (.inl hx))), d2.frame k1.size (fun x hx => k1.block x (.inr (.inr hx))), fun x hx => ⟨(s1 x hx).1, fun hq => ?_⟩, fun x hx hq => ?_, fun x hx => ?_⟩, e1, fun x hx hq => e2 x hx (.inl hq)⟩, k1.sub (fun x hx => .inl hx)⟩
    · rcases hq with hq | hq
      · exact (s1 x hx).2 (.inl hq)
      · exact e2 x hq (.inr (.inl hx))
    · rcases hq with hq | hq
      · exact s2 x hx (.inl hq)
      · exact e2 x hq (.inr (.inr hx))
    · rcases hx with hx | hx
      · have := s3 x (.inl hx); have := k1.size; omega
      · exact e1.rng x hx
/-- Three disks, made one behind the other. -/
theorem Dsk.trio {W w1 w2 w3 : World} {a b c : Nat} {ka kb kc : Dk} (h1 : Dsk W a ka w1) (h2 : Dsk w1 b kb w2) (h3 : Dsk w2 c kc w3) : Trio (fun x => x < W.heap.size) a b c ka kb kc w3 ∧ Below W.heap.size W w3 := by
  obtain ⟨b1, S, d1, s1⟩ := h1
  obtain ⟨b2, T, d2, s2⟩ := h2
  obtain ⟨b3, U, d3, s3⟩ := h3
  have hs1 := b1.size
  have hs2 := b2.size
  have hs3 := b3.size
  have b12 : Below w1.heap.size w1 w3 := b2.trans (b3.mono hs2)
  refine ⟨⟨T, ⟨S, U, d1.later b12, d3, fun x hx => ⟨fun hu => ?_, fun hq => ?_⟩, fun x hx hq => ?_, fun x hx => ?_⟩, d2.later b3, fun x hx hq => ?_⟩, b1.trans (b12.mono hs1)⟩
  · have := s3 x hu; have := d1.rng x hx; omega
  · rcases hq with hq | hq
    · have := s1 x hx; omega
    · have := s2 x hq; have := d1.rng x hx; omega
  · rcases hq with hq | hq
    · have := s3 x hx; omega
    · have := s3 x hx; have := d2.rng x hq; omega
  · rcases hx with hx | hx
    · omega
    · have := d2.rng x hx; omega
  · have := s2 x hx; omega
theorem Trio.changeA {Q : Nat → Prop} {a b c n : Nat} {ka kb kc : Dk} {w : World} (h : Trio Q a b c ka kb kc w) (kd : Int) (nm to : ByteArray) (at' m : Int) (vb vp : Value) (l : List Nat) (hk1 : 1 ≤ kd) (hk7 : kd ≤ 7) (hs : nm.size ≤ maxLen) (ht : to.size ≤ maxLen) (hm : I64 m) (hw : ∀ w', Keep Q w w' → BytesAt w' vb l) (hl : l.length ≤ 140737488351232) (hk : ka.Dok n) (hu : ka.Uok) (hn : n ≤ 4398046511103) :
    Calls Try.prog 23 #[.pointer (some ⟨a, 0, none⟩), .agg #[.int .i64 kd, .string nm, .string to, .int .i64 at', .int .i64 m, vb, vp]] w fun e w' => ∃ G, ¬ ka.live G ∧ e = .returned (.tuple #[.int .i64 (chK ka kd nm to m l G).1, .bool true]) ∧ Trio Q a b c (chK ka kd nm to m l G).2 kb kc w' ∧ Keep Q w w' := by
  obtain ⟨Q', h1, h2, h3⟩ := h.ac
  refine (h1.changeA kd nm to at' m vb vp l hk1 hk7 hs ht hm (fun w' hk => hw w' (hk.sub h2)) hl hk hu hn).mono ?_
  rintro e w' ⟨G, hG, rfl, d, k⟩
  exact ⟨G, hG, rfl, h3 _ _ _ d k, k.sub h2⟩
theorem Trio.changeC {Q : Nat → Prop} {a b c n : Nat} {ka kb kc : Dk} {w : World} (h : Trio Q a b c ka kb kc w) (kd : Int) (nm to : ByteArray) (at' m : Int) (vb vp : Value) (l : List Nat) (hk1 : 1 ≤ kd) (hk7 : kd ≤ 7) (hs : nm.size ≤ maxLen) (ht : to.size ≤ maxLen) (hm : I64 m) (hw : ∀ w', Keep Q w w' → BytesAt w' vb l) (hl : l.length ≤ 140737488351232) (hk : kc.Dok n) (hu : kc.Uok) (hn : n ≤ 4398046511103) :
    Calls Try.prog 23 #[.pointer (some ⟨c, 0, none⟩), .agg #[.int .i64 kd, .string nm, .string to, .int .i64 at', .int .i64 m, vb, vp]] w fun e w' => ∃ G, ¬ kc.live G ∧ e = .returned (.tuple #[.int .i64 (chK kc kd nm to m l G).1, .bool true]) ∧ Trio Q a b c ka kb (chK kc kd nm to m l G).2 w' ∧ Keep Q w w' := by
  obtain ⟨Q', h1, h2, h3⟩ := h.ac
  refine (h1.changeB kd nm to at' m vb vp l hk1 hk7 hs ht hm (fun w' hk => hw w' (hk.sub h2)) hl hk hu hn).mono ?_
  rintro e w' ⟨G, hG, rfl, d, k⟩
  exact ⟨G, hG, rfl, h3 _ _ _ d k, k.sub h2⟩
theorem Trio.changeB {Q : Nat → Prop} {a b c n : Nat} {ka kb kc : Dk} {w : World} (h : Trio Q a b c ka kb kc w) (kd : Int) (nm to : ByteArray) (at' m : Int) (vb vp : Value) (l : List Nat) (hk1 : 1 ≤ kd) (hk7 : kd ≤ 7) (hs : nm.size ≤ maxLen) (ht : to.size ≤ maxLen) (hm : I64 m) (hw : ∀ w', Keep Q w w' → BytesAt w' vb l) (hl : l.length ≤ 140737488351232) (hk : kb.Dok n) (hu : kb.Uok) (hn : n ≤ 4398046511103) :
    Calls Try.prog 23 #[.pointer (some ⟨b, 0, none⟩), .agg #[.int .i64 kd, .string nm, .string to, .int .i64 at', .int .i64 m, vb, vp]] w fun e w' => ∃ G, ¬ kb.live G ∧ e = .returned (.tuple #[.int .i64 (chK kb kd nm to m l G).1, .bool true]) ∧ Trio Q a b c ka (chK kb kd nm to m l G).2 kc w' ∧ Keep Q w w' := by
  obtain ⟨P, h1, h2, h3⟩ := h.bb
  refine (changeAllP kd nm to at' m vb vp l hk1 hk7 h1 hs ht hm (fun w' hk => hw w' (hk.sub h2)) hl hk hu hn).mono ?_
  rintro e w' ⟨G, hG, rfl, d⟩
  obtain ⟨t1, t2⟩ := h3 _ _ d
  exact ⟨G, fun hl => by have := h1.liveLt hl; omega, rfl, t1, t2⟩
theorem Trio.imageA {Q : Nat → Prop} {a b c n : Nat} {ka kb kc : Dk} {w : World} (h : Trio Q a b c ka kb kc w) (hk : ka.Dok n) : Calls Try.prog 25 #[.pointer (some ⟨a, 0, none⟩)] w fun e w' => ∃ x l c, e = .returned (.slice x l c) ∧ ImgAt w' (.slice x l c) (imK ka) w.heap.size ∧ Below w.heap.size w w' := by
  obtain ⟨Q', h1, _⟩ := h.ac
  exact h1.imageA hk
theorem Trio.imageC {Q : Nat → Prop} {a b c n : Nat} {ka kb kc : Dk} {w : World} (h : Trio Q a b c ka kb kc w) (hk : kc.Dok n) : Calls Try.prog 25 #[.pointer (some ⟨c, 0, none⟩)] w fun e w' => ∃ x l c, e = .returned (.slice x l c) ∧ ImgAt w' (.slice x l c) (imK kc) w.heap.size ∧ Below w.heap.size w w' := by
  obtain ⟨Q', h1, _⟩ := h.ac
  exact h1.imageB hk
theorem noPicks (w : World) : PicksAt w (.slice none 0 0) [] ∧ PicksOff w.heap.size (.slice none 0 0) := ⟨⟨none, 0, rfl, by simp, by simp, by simp, by simp⟩, fun b off n c e => by simp at e⟩
theorem Trio.crashA {Q : Nat → Prop} {a b c n : Nat} {ka kb kc : Dk} {w : World} (h : Trio Q a b c ka kb kc w) (hk : ka.Dok n) (hp : ka.Past) (hn : n ≤ 2000000000000) : Calls Try.prog 15 #[.pointer (some ⟨a, 0, none⟩), .slice none 0 0] w fun e w' => ∃ x l c, e = .returned (.slice x l c) ∧ ImgAt w' (.slice x l c) (crK ka []) w.heap.size ∧ Below w.heap.size w w' := by
  obtain ⟨Q', h1, _⟩ := h.ac
  exact h1.crashA hk hp hn (noPicks w)
theorem Trio.crashC {Q : Nat → Prop} {a b c n : Nat} {ka kb kc : Dk} {w : World} (h : Trio Q a b c ka kb kc w) (hk : kc.Dok n) (hp : kc.Past) (hn : n ≤ 2000000000000) : Calls Try.prog 15 #[.pointer (some ⟨c, 0, none⟩), .slice none 0 0] w fun e w' => ∃ x l c, e = .returned (.slice x l c) ∧ ImgAt w' (.slice x l c) (crK kc []) w.heap.size ∧ Below w.heap.size w w' := by
  obtain ⟨Q', h1, _⟩ := h.ac
  exact h1.crashB hk hp hn (noPicks w)
theorem Trio.usedA {Q : Nat → Prop} {a b c : Nat} {ka kb kc : Dk} {w : World} (h : Trio Q a b c ka kb kc w) : Calls Try.prog 21 #[.pointer (some ⟨a, 0, none⟩)] w fun e w' => e = .returned (.int .i64 ka.used) ∧ w' = w := by
  obtain ⟨Q', h1, _⟩ := h.ac
  obtain ⟨P, hP, _⟩ := h1.left
  exact usedP hP
theorem Trio.usedC {Q : Nat → Prop} {a b c : Nat} {ka kb kc : Dk} {w : World} (h : Trio Q a b c ka kb kc w) : Calls Try.prog 21 #[.pointer (some ⟨c, 0, none⟩)] w fun e w' => e = .returned (.int .i64 kc.used) ∧ w' = w := by
  obtain ⟨Q', h1, _⟩ := h.ac
  obtain ⟨P, hP, _⟩ := h1.right
  exact usedP hP
/-- What the law on three disks keeps. -/
structure AInv (ka kb kc : Dk) (m n : Nat) : Prop where
  ag : ka.Good m
  ap : ka.Past
  bg : kb.Good n
  cg : kc.Good m
  cp : kc.Past
  sib : ∃ R, Sib R ka kc
theorem AInv.mono {ka kb kc : Dk} {m m' n n' : Nat} (h : AInv ka kb kc m n) (hm : m ≤ m') (hn : n ≤ n') : AInv ka kb kc m' n' := ⟨h.ag.mono hm, h.ap, h.bg.mono hn, h.cg.mono hm, h.cp, h.sib⟩
theorem AInv.step {ka kb kc : Dk} {m n A C : Nat} {kd mm : Int} {nm to : ByteArray} {l : List Nat} (h : AInv ka kb kc m n) (hs : nm.size ≤ maxLen) (ht : to.size ≤ maxLen) (hm : m ≤ 4398046511102) (hA : ¬ ka.live A) (hC : ¬ kc.live C) : (chK ka kd nm to mm l A).1 = (chK kc kd nm to mm l C).1 ∧ AInv (chK ka kd nm to mm l A).2 kb (chK kc kd nm to mm l C).2 (m + 1) n := by
  obtain ⟨R, hR⟩ := h.sib
  obtain ⟨e1, R', e2⟩ := chK_R (a := A) (b := C) (kd := kd) (m := mm) (nm := nm) (to := to) (l := l) hR (by rw [h.ag.on.dead, h.cg.on.dead]) h.ag.on.can h.cg.on.can hA hC
  exact ⟨e1, h.ag.chK hs ht hm hA, h.ap.chK h.ag.dok, h.bg, h.cg.chK hs ht hm hC, h.cp.chK h.cg.dok, R', e2⟩
theorem AInv.stepB {ka kb kc : Dk} {m n B : Nat} {kd mm : Int} {nm to : ByteArray} {l : List Nat} (h : AInv ka kb kc m n) (hs : nm.size ≤ maxLen) (ht : to.size ≤ maxLen) (hm : n ≤ 4398046511102) (hB : ¬ kb.live B) : AInv ka (chK kb kd nm to mm l B).2 kc m (n + 1) := ⟨h.ag, h.ap, h.bg.chK hs ht hm hB, h.cg, h.cp, h.sib⟩
theorem AInv.begin (q : Int) (a b c : Nat) (h0 : 0 ≤ q) (h1 : q ≤ 1073741824) : AInv (Go.Proofs.Ytadflolbgcdncaa.bg q a) (Go.Proofs.Ytadflolbgcdncaa.bg q b) (Go.Proofs.Ytadflolbgcdncaa.bg q c) 2 2 := ⟨⟨bg_dok q a h0 h1, bg_sum q a h0 h1, bg_on q a⟩, bg_past q a, ⟨bg_dok q b h0 h1, bg_sum q b h0 h1, bg_on q b⟩, ⟨bg_dok q c h0 h1, bg_sum q c h0 h1, bg_on q c⟩, bg_past q c, bg_R q a c⟩
theorem Dk.Good.eachLen {k : Dk} {n : Nat} (h : k.Good n) (j : Nat) : ((imK k).getD j ([], [])).2.length ≤ 1073741824 := by
  have h1 := imK_total h.sum.keys
  have h2 := h.sum.used
  have h3 := h.sum.lim
  by_cases hj : j < (imK k).length
  · have hp : (imK k)[j]? = some ((imK k).getD j ([], [])) := by simp [List.getD_eq_getElem?_getD, hj]
    have h4 := imT_take (imK k) j _ hp
    have h5 := imT_le (imK k) (j + 1)
    omega
  · rw [List.getD_eq_getElem?_getD, List.getElem?_eq_none (by omega)]
    simp
end Go.Proofs.Ytadflolbgcdncaa
