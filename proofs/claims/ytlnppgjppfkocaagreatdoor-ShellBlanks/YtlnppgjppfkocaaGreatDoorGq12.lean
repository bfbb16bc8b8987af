import Derived.Test.YtlnppgjppfkocaaGreatDoorGq11
import Derived.Deep.AppendSrc
import Derived.Deep.Upon
import Derived.Laws.IdiomCopy
import Derived.Laws.IdiomStrings
import Derived.Deep.RegionLaw
import Derived.Laws.BytesArg
/-! Rows of bytes that the call itself has made, and what append does to them. -/
namespace Go.Proofs.YtlnppgjppfkocaaGreatDoor
open Go.RowKit Plain
set_option linter.unusedVariables false

/-- v reads as l, and lies at the head of a row of bytes, in block r, that may be written. -/
def Own (w : World) (v : Value) (l : List Nat) (r : Option Nat) : Prop :=
  (∀ c ∈ l, c < 256) ∧ ((v = .slice none 0 0 ∧ l = [] ∧ r = none) ∨
    ∃ g cap, r = some g ∧ v = .slice (some ⟨g, 0, none⟩) l.length cap ∧ g < w.heap.size ∧ l.length ≤ cap ∧ cap ≤ maxLen ∧
      (∀ j, j < cap → w.frozen? ⟨g, j, none⟩ = false) ∧ (∀ j, j < cap → (w.cell? ⟨g, j, none⟩).isSome = true) ∧
      ∀ j, j < l.length → w.cell? ⟨g, j, none⟩ = some (.int .u8 ((l.getD j 0 : Nat) : Int)))

theorem grow_trans {a b c : World} {r r' : Option Nat} (h : a.grownBy b r) (k : b.grownBy c r') (hr : r' = r ∨ r' = none ∨ ∃ g, r' = some g ∧ a.heap.size ≤ g) : a.grownBy c r :=
  ⟨k.os.trans h.os, k.tape.trans h.tape, k.output.trans h.output, Nat.le_trans h.size k.size, fun i hi hne => by
    rw [k.block i (Nat.lt_of_lt_of_le hi h.size) ?_]
    · exact h.block i hi hne
    · rcases hr with rfl | rfl | ⟨g, rfl, hg⟩
      · exact hne
      · simp
      · simp only [ne_eq, Option.some.injEq]; omega⟩

theorem below_grow {w w' : World} (h : Below w.heap.size w w') (r : Option Nat) : w.grownBy w' r := ⟨h.os, h.tape, h.output, h.size, fun k hk _ => h.block k hk⟩

theorem grow_below {w w' : World} {r : Option Nat} {B : Nat} (h : w.grownBy w' r) (hB : B ≤ w.heap.size) (hr : ∀ g, r = some g → B ≤ g) : Below B w w' :=
  ⟨h.os, h.tape, h.output, h.size, fun k hk => h.block k (Nat.lt_of_lt_of_le hk hB) (fun e => by have := hr k e.symm; omega)⟩

theorem grow_drewN {w w' : World} {r : Option Nat} (h : w.grownBy w' r) (n : Nat) : w.grownBy (w'.drewN n) r := ⟨h.os, h.tape, h.output, h.size, h.block⟩

theorem Own.byte {w : World} {v : Value} {l : List Nat} {r : Option Nat} (h : Own w v l r) : ∀ c ∈ l, c < 256 := h.1

theorem Own.nil (w : World) : Own w (.slice none 0 0) [] none := ⟨by simp, .inl ⟨rfl, rfl, rfl⟩⟩

theorem Own.kept {w w' : World} {v : Value} {l : List Nat} {r r' : Option Nat} (h : Own w v l r) (k : w.grownBy w' r') (hne : r = none ∨ r ≠ r') : Own w' v l r := by
  refine ⟨h.1, ?_⟩
  rcases h.2 with h0 | ⟨g, cap, rfl, rfl, hg, h1, h2, h3, h4, h5⟩
  · exact .inl h0
  · have hb : w'.heap[g]? = w.heap[g]? := k.block g hg (by rcases hne with h | h <;> simp_all)
    refine .inr ⟨g, cap, rfl, rfl, Nat.lt_of_lt_of_le hg k.size, h1, h2, fun j hj => ?_, fun j hj => ?_, fun j hj => ?_⟩
    · rw [World.frozen?_of_block (w := w) (a := ⟨g, j, none⟩) hb]; exact h3 j hj
    · rw [World.cell?_of_block (w := w) (a := ⟨g, j, none⟩) hb]; exact h4 j hj
    · rw [World.cell?_of_block (w := w) (a := ⟨g, j, none⟩) hb]; exact h5 j hj

theorem Own.later {w w' : World} {v : Value} {l : List Nat} {r : Option Nat} (h : Own w v l r) (k : Below w.heap.size w w') : Own w' v l r := by
  cases r with
  | none => exact h.kept (below_grow k none) (.inl rfl)
  | some g => exact h.kept (below_grow k none) (.inr (by simp))

theorem Own.lt {w : World} {v : Value} {l : List Nat} {g : Nat} (h : Own w v l (some g)) : g < w.heap.size := by
  rcases h.2 with ⟨_, _, h⟩ | ⟨g', cap, e, _, hg, _⟩
  · simp at h
  · simp at e; omega

theorem Own.bytes {w : World} {v : Value} {l : List Nat} {r : Option Nat} (h : Own w v l r) : BytesAt w v l := by
  rcases h.2 with ⟨rfl, rfl, rfl⟩ | ⟨g, cap, rfl, rfl, hg, h1, h2, h3, h4, h5⟩
  · exact BytesAt.nil w
  · exact ⟨_, cap, rfl, h1, h2, h.1, fun _ => ⟨g, 0, rfl, fun j hj => by rw [Nat.zero_add]; exact h5 j hj⟩⟩

theorem Own.len {w : World} {v : Value} {l : List Nat} {r : Option Nat} (h : Own w v l r) : l.length ≤ maxLen := h.bytes.len

theorem Own.take {w : World} {a : Option Addr} {len cap : Nat} {l : List Nat} {r : Option Nat} (h : Own w (.slice a len cap) l r) (n : Nat) (hn : n ≤ l.length) : Own w (.slice a n cap) (l.take n) r := by
  refine ⟨fun c hc => h.1 c (List.mem_of_mem_take hc), ?_⟩
  have hl : (l.take n).length = n := by simp; omega
  rcases h.2 with ⟨e, rfl, rfl⟩ | ⟨g, cap', rfl, e, hg, h1, h2, h3, h4, h5⟩
  · simp only [Value.slice.injEq] at e
    obtain ⟨rfl, rfl, rfl⟩ := e
    have : n = 0 := by simpa using hn
    subst this
    exact .inl ⟨rfl, rfl, rfl⟩
  · simp only [Value.slice.injEq] at e
    obtain ⟨rfl, rfl, rfl⟩ := e
    refine .inr ⟨g, cap, rfl, by rw [hl], hg, by omega, h2, h3, h4, fun j hj => ?_⟩
    rw [getD_take l n j (by omega)]
    exact h5 j (by omega)

theorem Own.shape {w : World} {v : Value} {l : List Nat} {g : Nat} (h : Own w v l (some g)) : ∃ cap, v = .slice (some ⟨g, 0, none⟩) l.length cap ∧ l.length ≤ cap ∧ cap ≤ maxLen := by
  rcases h.2 with ⟨_, _, h⟩ | ⟨g', cap, e, rfl, hg, h1, h2, _⟩
  · simp at h
  · simp at e; subst e; exact ⟨cap, rfl, h1, h2⟩

/-- A row of no bytes. -/
theorem Own.empty (w : World) (t : TypeId) : Own (w.alloc (.cells #[] t)) (.slice (some ⟨w.heap.size, 0, none⟩) 0 0) [] (some w.heap.size) :=
  ⟨by simp, .inr ⟨w.heap.size, 0, rfl, rfl, by simp, by simp, by simp, by simp, by simp, by simp⟩⟩

theorem cellsOf_get (l : List Nat) (j : Nat) (h : j < l.length) : (cellsOf l)[j]? = some (.int .u8 ((l.getD j 0 : Nat) : Int)) := by
  simp [cellsOf, List.getD_eq_getElem?_getD, List.getElem?_eq_getElem h]

theorem cellsOf_len (l : List Nat) : (cellsOf l).length = l.length := by simp [cellsOf]
theorem cellsOf_append (l k : List Nat) : cellsOf l ++ cellsOf k = cellsOf (l ++ k) := by simp [cellsOf]
theorem cellsOf_one (l : List Nat) : ∀ u ∈ cellsOf l, u.oneCell' = true := by
  intro u hu
  obtain ⟨_, _, rfl⟩ := List.mem_map.mp hu
  rfl

theorem getD_left (l k : List Nat) {j : Nat} (h : j < l.length) : (l ++ k).getD j 0 = l.getD j 0 := by
  simp [List.getD_eq_getElem?_getD, List.getElem?_append_left h]
theorem getD_right (l k : List Nat) {j : Nat} (h : l.length ≤ j) : (l ++ k).getD j 0 = k.getD (j - l.length) 0 := by
  simp [List.getD_eq_getElem?_getD, List.getElem?_append_right h]

/-- A new row. -/
theorem Own.new (w : World) (C : Array Value) (l : List Nat) (cap : Nat) (t : TypeId) (hb : ∀ c ∈ l, c < 256) (hcap : C.size = cap) (hle : l.length ≤ cap) (hm : cap ≤ maxLen) (hC : ∀ j, j < l.length → C[j]? = some (.int .u8 ((l.getD j 0 : Nat) : Int))) :
    Own (w.alloc (.cells C t)) (.slice (some ⟨w.heap.size, 0, none⟩) l.length cap) l (some w.heap.size) := by
  refine ⟨hb, .inr ⟨w.heap.size, cap, rfl, rfl, by simp, hle, hm, fun j hj => ?_, fun j hj => ?_, fun j hj => ?_⟩⟩
  · exact World.frozen?_alloc_at _ _ _ _ rfl
  · rw [World.cell?_alloc_at _ _ _ _ rfl, Array.getElem?_eq_getElem (by omega)]; rfl
  · rw [World.cell?_alloc_at _ _ _ _ rfl]; exact hC j hj

/-- A slice of bytes that is appended. -/
theorem src_of {w : World} {v : Value} {l : List Nat} {t : TypeId} (ht : Tryz.prog.underlying t = some (.slice 5)) (h : BytesAt w v l) : Src Tryz.prog 1 t v l.length (cellsOf l) w := by
  obtain ⟨a, cap, rfl, h1, h2, h3, h4⟩ := h
  by_cases hnil : l = []
  · subst hnil
    cases a with
    | none => exact Src.ofNil w ht cap
    | some a => exact Src.ofSlice w ht a 0 cap [] (by simp) (by simp) (by simp)
  · obtain ⟨b, off, rfl, h5⟩ := h4 hnil
    refine Src.ofSlice w ht _ _ cap _ (by rw [cellsOf_len]; simp) (fun j u hj => ?_) (cellsOf_one l)
    have hjl : j < l.length := by
      have := (List.getElem?_eq_some_iff.mp hj).1
      rwa [cellsOf_len] at this
    rw [WideShapes.add_plain, h5 j hjl, ← cellsOf_get l j hjl, hj]

theorem src_str {w : World} {s : ByteArray} {t : TypeId} (ht : Tryz.prog.underlying t = some .string) : Src Tryz.prog 1 t (.string s) (s.data.toList.map (·.toNat)).length (cellsOf (s.data.toList.map (·.toNat))) w := by
  have e : cellsOf (s.data.toList.map (·.toNat)) = byteCells s := by simp [cellsOf, byteCells]
  have e2 : (s.data.toList.map (·.toNat)).length = s.size := by simp
  rw [e, e2]
  exact Src.ofString w ht s

theorem setCells_size (b : Nat) : ∀ (vs : List Value) (o : Nat) (w : World), (w.setCells b o vs).heap.size = w.heap.size
  | [], _, _ => rfl
  | v :: vs, o, w => by rw [World.setCells, setCells_size b vs]; simp
theorem setCells_tape (b : Nat) : ∀ (vs : List Value) (o : Nat) (w : World), (w.setCells b o vs).tape = w.tape
  | [], _, _ => rfl
  | v :: vs, o, w => by rw [World.setCells, setCells_tape b vs]; rfl
theorem grow_setCells (w : World) (g o : Nat) (vs : List Value) : w.grownBy (w.setCells g o vs) (some g) :=
  ⟨World.os_setCells w g o vs, setCells_tape g vs o w, World.output_setCells w g o vs, by rw [setCells_size]; exact Nat.le_refl _, fun k hk hne => World.heap_setCells_other w g o vs hk (fun e => hne (by rw [e]))⟩
theorem isSome_setCells (b : Nat) : ∀ (vs : List Value) (o : Nat) (w : World) (x : Addr), (w.cell? x).isSome = true → ((w.setCells b o vs).cell? x).isSome = true
  | [], _, _, _, h => h
  | v :: vs, o, w, x, h => by
    rw [World.setCells]
    apply isSome_setCells b vs
    by_cases hx : x = ⟨b, o, none⟩
    · subst hx
      obtain ⟨u, hu⟩ := Option.isSome_iff_exists.mp h
      rw [World.cell?_setCell_same _ _ _ hu]; rfl
    · rw [World.cell?_setCell_other _ _ _ _ (Ne.symm hx)]; exact h

/-- WHAT append DOES to a row of the call's own. -/
theorem run_append_row (w : World) (t tx ty : TypeId) (ht : Tryz.prog.underlying t = some (.slice 5)) (v x : Value) (l k : List Nat) (r : Option Nat) (hown : Own w v l r)
    (hk : ∀ c ∈ k, c < 256) (hs : Src Tryz.prog 1 tx x k.length (cellsOf k) w) (hlen : l.length + k.length ≤ 140737488355328) :
    ∃ v' w' r', (Builtin.append_ #[t, tx] ty #[v, x]).run Tryz.prog w = .ok v' w' ∧ Own w' v' (l ++ k) r' ∧ w.grownBy w' r ∧ (r' = r ∨ r' = some w.heap.size) ∧ (k ≠ [] → r' ≠ none) := by
  obtain ⟨i, hi, hz0, hz1, hz2⟩ := info_parts Tryz.info5
  have hby : ∀ c ∈ l ++ k, c < 256 := fun c hc => by
    rcases List.mem_append.mp hc with h | h
    · exact hown.1 c h
    · exact hk c h
  have hs' : Src Tryz.prog i.size tx x k.length (cellsOf k) w := by rw [hz1]; exact hs
  have hmax : l.length + k.length ≤ maxLen := by unfold maxLen; omega
  have grow : ∀ (base : Option Addr) (sCap : Nat), (Builtin.firstCells i.size l.length (.slice base l.length sCap)).run Tryz.prog w.drew = .ok (cellsOf l).toArray w.drew → sCap < l.length + k.length →
      ∃ v' w' r', (Builtin.append_ #[t, tx] ty #[.slice base l.length sCap, x]).run Tryz.prog w = .ok v' w' ∧ Own w' v' (l ++ k) r' ∧ w.grownBy w' r ∧ (r' = r ∨ r' = some w.heap.size) ∧ (k ≠ [] → r' ≠ none) := by
    intro base sCap hold hg
    have hr := run_append_grow_src (P := Tryz.prog) w t tx ty 5 i (.int .u8 0) ht hi hz0 base l.length sCap (cellsOf l) hold x k.length (cellsOf k) hs' hg (by omega) (by rw [hz2]; exact growslice_fits hg (by omega))
    have hge := grownCap_ge w (l.length + k.length) sCap 5
    have hcm := grownCap_le_maxLen w (l.length + k.length) sCap 5 hmax
    refine ⟨_, _, some w.heap.size, hr, ?_, ⟨rfl, rfl, rfl, by simp, fun k hk _ => heap_alloc_old w.drew _ hk⟩, .inr rfl, by simp⟩
    have hl2 : (l ++ k).length = l.length + k.length := by simp
    have := Own.new w.drew ((cellsOf l ++ cellsOf k).toArray ++ Builtin.zeroCells (Value.int .u8 0).cells (grownCap w (l.length + k.length) sCap 5 - (l.length + k.length))) (l ++ k) (grownCap w (l.length + k.length) sCap 5) 5 hby
      (by rw [cellsOf_append, Array.size_append, List.size_toArray, cellsOf_len, size_zeroCells, hl2]; show _ + _ * 1 = _; omega) (by omega) hcm
      (fun j hj => by rw [cellsOf_append, Array.getElem?_append_left (by rw [List.size_toArray, cellsOf_len]; exact hj), List.getElem?_toArray]; exact cellsOf_get _ j hj)
    rw [hl2] at this
    exact this
  rcases hown.2 with ⟨rfl, rfl, rfl⟩ | ⟨g, cap, rfl, rfl, hg, h1, h2, h3, h4, h5⟩
  · by_cases hk0 : k = []
    · subst hk0
      refine ⟨.slice none 0 0, w, none, ?_, Own.nil w, ⟨rfl, rfl, rfl, Nat.le_refl _, fun _ _ _ => rfl⟩, .inl rfl, by simp⟩
      exact run_append_nothing w t tx ty 5 i ht hi none 0 0 (Nat.le_refl _) x hs'
    · have hkl : 0 < k.length := List.length_pos_iff.mpr hk0
      exact grow none 0 (by rw [List.length_nil]; exact run_firstCells_none w.drew _ _ _ _) (by simpa using hkl)
  · by_cases hroom : l.length + k.length ≤ cap
    · have hr := run_append_room_src (P := Tryz.prog) w t tx ty 5 i ht hi g 0 l.length cap x k.length (cellsOf k) hs' hroom
        (fun j hj => by rw [hz1]; rw [cellsOf_len] at hj; simpa using h4 (l.length + j) (by omega))
        (fun j hj => by rw [hz1]; rw [cellsOf_len] at hj; simpa using h3 (l.length + j) (by omega))
      rw [hz1, Nat.zero_add, Nat.mul_one] at hr
      have hl2 : (l ++ k).length = l.length + k.length := by simp
      refine ⟨_, _, some g, hr, ⟨hby, .inr ⟨g, cap, rfl, by rw [hl2], ?_, by omega, h2, fun j hj => ?_, fun j hj => ?_, fun j hj => ?_⟩⟩, ?_, .inl rfl, by simp⟩
      · rw [setCells_size]; exact hg
      · rw [World.frozen?_setCells]; exact h3 j hj
      · exact isSome_setCells g _ _ w _ (h4 j hj)
      · by_cases hj' : j < l.length
        · rw [World.cell?_setCells_out g _ _ w _ (fun _ _ => .inl hj'), h5 j hj', getD_left l k hj']
        · have hj2 : j - l.length < k.length := by omega
          have := World.cell?_setCells_in g (cellsOf k) l.length w (fun m hm => h4 _ (by rw [cellsOf_len] at hm; omega)) (j - l.length) (by rw [cellsOf_len]; exact hj2)
          rw [show l.length + (j - l.length) = j by omega] at this
          rw [this, getD_right l k (by omega), ← cellsOf_get k _ hj2]
          rw [List.getElem?_eq_getElem (by rw [cellsOf_len]; exact hj2)]
      · exact grow_setCells w g _ _
    · refine grow _ cap ?_ (by omega)
      rw [hz1]
      refine run_firstCells_some w.drew 1 l.length ⟨g, 0, none⟩ _ _ (cellsOf l) (by rw [cellsOf_len, Nat.mul_one]) (fun j u hj => ?_)
      have hjl : j < l.length := by
        have := (List.getElem?_eq_some_iff.mp hj).1
        rwa [cellsOf_len] at this
      rw [WideShapes.add_plain, Nat.zero_add]
      show w.cell? ⟨g, j, none⟩ = some u
      rw [h5 j hjl, ← cellsOf_get l j hjl, hj]

theorem wpList_append_row {ops : Array Oper} {rest : List Oper} {o : Oper} {a : Act} {Q : Exit → Act → World → Prop} (w : World) (hgd : o.guard = none) (s x : Operand) (t tx : TypeId)
    (ho : o.op = .call { callee := .builtin .append, args := #[s, x], argTypes := #[t, tx] }) (ht : Tryz.prog.underlying t = some (.slice 5)) (v xv : Value) (l k : List Nat) (r : Option Nat)
    (hs : a.eval s = v) (hx : a.eval x = xv) (hown : Own w v l r) (hk : ∀ c ∈ k, c < 256) (hsrc : Src Tryz.prog 1 tx xv k.length (cellsOf k) w) (hlen : l.length + k.length ≤ 140737488355328)
    (h : ∀ v' w' r', Own w' v' (l ++ k) r' → w.grownBy w' r → (r' = r ∨ r' = some w.heap.size) → (k ≠ [] → r' ≠ none) → wpList Tryz.prog ops Q rest (a.put o.dst v') w') : wpList Tryz.prog ops Q (o :: rest) a w :=
  wpList_plain hgd fun _ hK => by
    obtain ⟨v', w', r', hr, h1, h2, h3, h4⟩ := run_append_row w t tx o.type ht v xv l k r hown hk hsrc hlen
    unfold Oper.wp execOp
    simp only [ho, resolve, invoke, builtin, Sem.run_bind, Sem.run_pure, Result.andThen_ok, List.map_toArray, List.map_cons, List.map_nil, hs, hx, hr]
    exact hK _ _ (h v' w' r' h1 h2 h3 h4)

/-- One byte in a new block of its own. -/
theorem src_one (w : World) (c : Nat) (tx t : TypeId) (ht : Tryz.prog.underlying tx = some (.slice 5)) : Src Tryz.prog 1 tx (.slice (some ⟨w.heap.size, 0, none⟩) 1 1) [c].length (cellsOf [c]) (w.alloc (.cells #[.int .u8 (c : Int)] t)) :=
  Src.ofSlice _ ht _ 1 1 _ (by simp [cellsOf]) (fun j u hj => by
    match j, hj with
    | 0, hj =>
      simp [cellsOf] at hj
      subst hj
      rw [WideShapes.add_plain, World.cell?_alloc_at _ _ _ _ rfl]; rfl) (cellsOf_one _)
end Go.Proofs.YtlnppgjppfkocaaGreatDoor

/-! Lines: rows of bytes that a call makes; the document's readText. -/
namespace Go.Proofs.YtlnppgjppfkocaaGreatDoor.Xs
open Go.RowKit Plain
set_option linter.unusedVariables false
set_option linter.unusedSimpArgs false

def nats (l : By) : List Nat := l.map UInt8.toNat
theorem nats_len (l : By) : (nats l).length = l.length := by simp [nats]
theorem nats_app (l k : By) : nats (l ++ k) = nats l ++ nats k := by simp [nats]
theorem nats_lt (l : By) : ∀ c ∈ nats l, c < 256 := fun c hc => by
  obtain ⟨x, _, e⟩ := List.mem_map.1 hc
  rw [← e]; exact x.toNat_lt
/-- A row of bytes that was made since the world W. -/
def Gb (W w : World) (v : Value) (l : By) : Prop := ∃ r, Own w v (nats l) r ∧ (∀ g, r = some g → W.heap.size ≤ g) ∧ Below W.heap.size W w
theorem Gb.nil {W w : World} (h : Below W.heap.size W w) : Gb W w (.slice none 0 0) [] := ⟨none, Own.nil w, by simp, h⟩
theorem Gb.below {W w : World} {v : Value} {l : By} (h : Gb W w v l) : Below W.heap.size W w := by
  obtain ⟨r, _, _, hb⟩ := h; exact hb
theorem Gb.later {W w w' : World} {v : Value} {l : By} (h : Gb W w v l) (hb : Below w.heap.size w w') : Gb W w' v l := by
  obtain ⟨r, h1, h2, h3⟩ := h
  exact ⟨r, h1.later hb, h2, below_on h3 hb⟩
theorem Gb.slice {W w : World} {v : Value} {l : By} (h : Gb W w v l) : ∃ a cap, v = .slice a l.length cap := by
  obtain ⟨r, h1, _, _⟩ := h
  rcases h1.2 with ⟨e, e2, _⟩ | ⟨g, cap, _, e, _⟩
  · have : l.length = 0 := by have := congrArg List.length e2; rwa [nats_len] at this
    exact ⟨none, 0, by rw [e, this]⟩
  · exact ⟨_, cap, by rw [e, nats_len]⟩
theorem Gb.pushed {W w w1 w' : World} {v' : Value} {l : By} {y : UInt8} {r r' : Option Nat} (hb : Below W.heap.size W w) (h2 : ∀ g, r = some g → W.heap.size ≤ g)
    (hb1 : Below w.heap.size w w1) (ho : Own w' v' (nats l ++ [y.toNat]) r') (hg : w1.grownBy w' r) (hr : r' = r ∨ r' = some w1.heap.size) : Gb W w' v' (l ++ [y]) := by
  refine ⟨r', by rw [nats_app]; exact ho, fun g e => ?_, ?_⟩
  · rcases hr with k | k
    · exact h2 g (by rw [← k]; exact e)
    · rw [k] at e; cases e; exact Nat.le_trans hb.size hb1.size
  · exact (hb.trans (hb1.mono hb.size)).trans (grow_below hg (Nat.le_trans hb.size hb1.size) h2)
theorem src_gb (w : World) (y : UInt8) (t : TypeId) : Src Tryz.prog 1 25 (.slice (some ⟨w.heap.size, 0, none⟩) 1 1) [y.toNat].length (cellsOf [y.toNat]) (w.alloc (.cells #[.int .u8 (y.toNat : Int)] t)) := src_one w y.toNat 25 t Tryz.underlying25
/-- append of one byte, which lies in a block of its own. -/
theorem wpList_append_gb {ops : Array Oper} {rest : List Oper} {o : Oper} {a : Act} {Q : Exit → Act → World → Prop} {W : World} (w w1 : World) (hgd : o.guard = none) (s x : Operand)
    (ho : o.op = .call { callee := .builtin .append, args := #[s, x], argTypes := #[25, 25] }) (v xv : Value) (l : By) (y : UInt8)
    (hs : a.eval s = v) (hx : a.eval x = xv) (h : Gb W w v l) (hb1 : Below w.heap.size w w1) (hsrc : Src Tryz.prog 1 25 xv [y.toNat].length (cellsOf [y.toNat]) w1) (hlen : l.length ≤ 140737488355000)
    (hK : ∀ v' w', Gb W w' v' (l ++ [y]) → wpList Tryz.prog ops Q rest (a.put o.dst v') w') : wpList Tryz.prog ops Q (o :: rest) a w1 := by
  obtain ⟨r, h1, h2, h3⟩ := h
  refine wpList_append_row w1 hgd s x 25 25 ho Tryz.underlying25 v xv (nats l) [y.toNat] r hs hx (h1.later hb1) (by intro u hu; rw [List.mem_singleton] at hu; rw [hu]; exact y.toNat_lt) hsrc (by rw [nats_len]; simp; omega) ?_
  intro v' w' r' ho' hg' hr' _
  exact hK v' w' (Gb.pushed h3 h2 hb1 ho' hg' hr')
theorem step_append_gb {ops : Array Oper} {o : Oper} {a : Act} {w w1 W : World} {K : Act → World → Prop} {Q : Exit → Act → World → Prop} {E : Prop}
    (hg : o.guard = none) (s x : Operand) (hop : o.op = Op.call { callee := Callee.builtin Builtin.append, args := #[s, x], argTypes := #[25, 25] }) (v xv : Value) (l : By) (y : UInt8)
    (hs : a.eval s = v) (hx : a.eval x = xv) (h : Gb W w v l) (hb1 : Below w.heap.size w w1) (hsrc : Src Tryz.prog 1 25 xv [y.toNat].length (cellsOf [y.toNat]) w1) (hlen : l.length ≤ 140737488355000)
    (hK : ∀ v' w', Gb W w' v' (l ++ [y]) → K (a.put o.dst v') w') :
    if Region.wanted o (yielded ops a.tmps) = true then Oper.wp Tryz.prog o a w1 K Q else E := by
  have hw : Region.wanted o (yielded ops a.tmps) = true := by simp [Region.wanted, hg]
  rw [if_pos hw]
  obtain ⟨r, h1, h2, h3⟩ := h
  obtain ⟨v', w', r', hrun, k1, k2, k3, k4⟩ := run_append_row w1 25 25 o.type Tryz.underlying25 v xv (nats l) [y.toNat] r (h1.later hb1) (by intro u hu; rw [List.mem_singleton] at hu; rw [hu]; exact y.toNat_lt) hsrc (by rw [nats_len]; simp; omega)
  unfold Oper.wp
  simp [execOp, hop, resolve, invoke, builtin, hs, hx, hrun, Result.andThen]
  exact hK v' w' (Gb.pushed h3 h2 hb1 k1 k2 k3)
/-- A row of bytes as a text. -/
theorem conv_gb {W w : World} {v : Value} {l : By} (h : Gb W w v l) (u : World) (hb : Below w.heap.size w u) : (convert 25 9 v).run Tryz.prog u = .ok (.string (ba l)) u := by
  obtain ⟨r, h1, _, _⟩ := h
  rcases (h1.later hb).2 with ⟨e, e2, _⟩ | ⟨g, cap, _, e, _, _, _, _, _, hc⟩
  · have : l = [] := List.length_eq_zero_iff.1 (by have := congrArg List.length e2; rwa [nats_len] at this)
    rw [e, this]
    have := run_convert_bytes_nil (P := Tryz.prog) u 25 5 Tryz.underlying25 Tryz.underlying5 0 0 9 Tryz.underlying9
    exact this
  · rw [e, nats_len]
    have := run_convert_bytes_back (P := Tryz.prog) u 25 9 5 ⟨g, 0, none⟩ cap l Tryz.underlying25 Tryz.underlying5 Tryz.underlying9 (fun j hj => by
      rw [WideShapes.add_plain, Nat.zero_add, hc j (by rw [nats_len]; exact hj)]
      simp [nats, List.getD_eq_getElem?_getD, hj])
    exact this

set_option maxHeartbeats 8000000 in
set_option maxRecDepth 100000 in
theorem rreadTextOf (s : By) (hs : s.length ≤ 100000) (w : World) :
    Calls Tryz.prog 84 #[.string (ba s)] w fun e w' => (∃ t : By, e = .returned (.string (ba t)) ∧ t.length ≤ s.length ∧ ∀ x, s = txt x → t = x) ∧ Below w.heap.size w w' := by
  have hsz : (ba s).size = s.length := rfl
  by_cases h1 : s.length < 2
  · have h1i : (s.length : Int) < 2 := by omega
    have HT : Hid (∀ x, s = txt x → s = x) := txt_bare (.inl h1)
    go_enter Tryz.func84, Tryz.ntmps84
    go_wp2
    go_ret
    exact ⟨⟨s, rfl, Nat.le_refl _, HT.out⟩, Below.refl _ _⟩
  · have h1i : ¬ (s.length : Int) < 2 := by omega
    have hkb : 0 < (ba s).size := by rw [hsz]; omega
    have hbg := ba_get hkb
    obtain ⟨z, hz⟩ : ∃ z : Int, (((ba s)[0]'hkb).toNat : Int) = z := ⟨_, rfl⟩
    have HZ : Hid (z = ((s.getD 0 0).toNat : Int)) := by unfold Hid; rw [← hz, hbg]
    clear hbg
    by_cases h2 : s.getD 0 0 = 34
    · have hz34 : (z != 34) = false := by rw [HZ.out, h2]; rfl
      have HD : Hid (∀ i b, RdT s i b → ¬ i + 1 < s.length → ∀ x, s = txt x → b = x) := fun i b hr hi => hr.done hi h2
      clear h2
      go_enter Tryz.func84, Tryz.ntmps84
      go_wp2
      go_loopw [3, 4] (fun v i wl => ∃ (k : Nat) (b : By) (a : Option Addr) (cap : Nat), 1 ≤ k ∧ k ≤ s.length + 4 ∧ i = .int .i64 k ∧ v = .slice a b.length cap ∧ Hid (RdT s k b) ∧ b.length + 1 ≤ k ∧ Hid (b.length ≤ s.length) ∧ Hid (Gb w wl (.slice a b.length cap) b)) (fun _ i _ => s.length + 10 - (intOf i).toNat)
      case atStart => exact ⟨1, [], none, 0, Nat.le_refl _, by omega, rfl, rfl, RdT.start s, by simp, by unfold Hid; simp, Gb.nil (Below.refl _ _)⟩
      case round =>
        obtain ⟨k, b, a, cap, hk1, hk2, rfl, rfl, HR, hbk, HBL, HG⟩ := hrel
        by_cases hp : k + 1 < s.length
        · have hki : (k : Int) < (s.length : Int) - 1 := by omega
          have hk0 : k < (ba s).size := by rw [hsz]; omega
          have hk1' : k + 1 < (ba s).size := by rw [hsz]; omega
          have g0 := ba_get hk0
          have g1 := ba_get hk1'
          have HB1 : Hid (b.length + 1 ≤ s.length) := by unfold Hid; omega
          obtain ⟨y0, hy0⟩ : ∃ z : Int, (((ba s)[k]'hk0).toNat : Int) = z := ⟨_, rfl⟩
          have hy1 : (((ba s)[k + 1]'hk1').toNat : Int) = ((s.getD (k + 1) 0).toNat : Int) := by rw [g1]
          have HY0 : Hid (y0 = ((s.getD k 0).toNat : Int)) := by unfold Hid; rw [← hy0, g0]
          clear g0 g1
          by_cases c0 : s.getD k 0 = 92
          · have hc0 : (y0 == 92) = true := by rw [HY0.out, c0]; rfl
            by_cases c1 : s.getD (k + 1) 0 = 120 ∧ k + 3 < s.length
            · obtain ⟨c1, c2⟩ := c1
              have HR2 : Hid (RdT s (k + 4) (b ++ [UInt8.ofNat (hxV (s.getD (k + 2) 0) * 16 + hxV (s.getD (k + 3) 0))])) := HR.out.hex hp c0 c1 c2
              have hk2b : k + 2 < (ba s).size := by rw [hsz]; omega
              have hk3b : k + 3 < (ba s).size := by rw [hsz]; omega
              have hy2 : (((ba s)[k + 2]'hk2b).toNat : Int) = ((s.getD (k + 2) 0).toNat : Int) := by rw [ba_get hk2b]
              have hy3 : (((ba s)[k + 3]'hk3b).toNat : Int) = ((s.getD (k + 3) 0).toNat : Int) := by rw [ba_get hk3b]
              have hc1 : ((((s.getD (k + 1) 0).toNat : Int)) == 120) = true := by rw [c1]; rfl
              have hc2 : (k : Int) + 3 < (s.length : Int) := by omega
              have D2 : Hid (∀ u, Calls Tryz.prog 56 #[.int .u8 ((s.getD (k + 2) 0).toNat : Int)] u fun e w' => e = .returned (.int .u8 (hxV (s.getD (k + 2) 0) : Int)) ∧ w' = u) := rdigitOf _
              have D3 : Hid (∀ u, Calls Tryz.prog 56 #[.int .u8 ((s.getD (k + 3) 0).toNat : Int)] u fun e w' => e = .returned (.int .u8 (hxV (s.getD (k + 3) 0) : Int)) ∧ w' = u) := rdigitOf _
              have v2 := hxV_lt (s.getD (k + 2) 0)
              have v3 := hxV_lt (s.getD (k + 3) 0)
              have HE1 : Hid ((((UInt8.ofNat (hxV (s.getD (k + 2) 0) * 16 + hxV (s.getD (k + 3) 0))).toNat : Nat) : Int) = (hxV (s.getD (k + 2) 0) : Int) * 16 + (hxV (s.getD (k + 3) 0) : Int)) := by
                unfold Hid
                rw [UInt8.toNat_ofNat_of_lt' (by show _ < 256; omega)]
                omega
              generalize UInt8.ofNat (hxV (s.getD (k + 2) 0) * 16 + hxV (s.getD (k + 3) 0)) = e1 at *
              generalize hxV (s.getD (k + 2) 0) = x2 at *
              generalize hxV (s.getD (k + 3) 0) = x3 at *
              generalize s.getD (k + 1) 0 = e0 at *
              generalize s.getD (k + 2) 0 = b2 at *
              generalize s.getD (k + 3) 0 = b3' at *
              have hm1 : IntKind.u8.wrap ((x2 : Int) * 16) = (x2 : Int) * 16 := by rw [IntKind.wrap_u8]; omega
              have hm2 : IntKind.u8.wrap ((x2 : Int) * 16 + (x3 : Int)) = (e1.toNat : Int) := by rw [IntKind.wrap_u8, HE1.out]; omega
              clear c0 c1 HY0 HD HE1
              have hi2 : IntKind.i64.wrap ((k : Int) + 2) = (k : Int) + 2 := by rw [IntKind.wrap_i64]; omega
              have hi3 : IntKind.i64.wrap ((k : Int) + 3) = (k : Int) + 3 := by rw [IntKind.wrap_i64]; omega
              have ix2 : ∀ u, (Instr.index 9 (.string (ba s)) (.int .i64 ((k : Int) + 2))).run Tryz.prog u = .ok (.int .u8 (b2.toNat : Int)) u := fun u => by
                rw [run_index_string u 9 (ba s) .i64 _ Tryz.underlying9, dif_pos ⟨by omega, by rw [hsz]; omega⟩]
                have : ((k : Int) + 2).toNat = k + 2 := by omega
                simp only [this, hy2]
              have ix3 : ∀ u, (Instr.index 9 (.string (ba s)) (.int .i64 ((k : Int) + 3))).run Tryz.prog u = .ok (.int .u8 (b3'.toNat : Int)) u := fun u => by
                rw [run_index_string u 9 (ba s) .i64 _ Tryz.underlying9, dif_pos ⟨by omega, by rw [hsz]; omega⟩]
                have : ((k : Int) + 3).toNat = k + 3 := by omega
                simp only [this, hy3]
              go_wp2_with fail
              go_region_law (first
                | (refine step_append_gb (w := wr) rfl (.tmp 39) (.tmp 52) rfl (.slice a b.length cap) (.slice (some ⟨wr.heap.size, 0, none⟩) 1 1) b e1 (by first | rfl | simp [Act.eval, Act.put]) (by first | rfl | simp [Act.eval, Act.put]) HG.out (by first | exact ((Below.refl _ wr).drew).alloc (Nat.le_refl _) _ | exact ((Below.refl _ wr).alloc (Nat.le_refl _) _).drew) (by first | exact src_gb wr.drew e1 5 | exact src_gb wr e1 5) (by have := HBL.out; omega) ?_
                   intro v' w3 hg3)
                | (go_simp; go_at_call_of 56 (Value.int .u8 (b2.toNat : Int)); refine (D2.out _).mono ?_; rintro e w9 ⟨rfl, rfl⟩)
                | (go_simp; go_at_call_of 56 (Value.int .u8 (b3'.toNat : Int)); refine (D3.out _).mono ?_; rintro e w9 ⟨rfl, rfl⟩))
              all_goals
                obtain ⟨a3, c3, rfl⟩ := hg3.slice
                have HG3 : Hid (Gb w w3 (.slice a3 (b ++ [e1]).length c3) (b ++ [e1])) := hg3
                have hbl3 : (b ++ [e1]).length = b.length + 1 := by simp
                have HBL3 : Hid ((b ++ [e1]).length ≤ s.length) := by unfold Hid; rw [hbl3]; exact HB1.out
                generalize b ++ [e1] = b3 at *
                obtain ⟨n3, hn3⟩ : ∃ n, b3.length = n := ⟨_, rfl⟩
                rw [hn3] at hbl3 ⊢
                clear hg3
                go_wp2
                go_roundw
                case rel => exact ⟨k + 4, b3, a3, c3, by omega, by omega, congrArg (Value.int .i64) (by omega), by (first | rw [hn3, hbl3] | rw [hn3]), HR2, by omega, HBL3, by rw [hn3]; rw [hn3] at HG3; exact HG3⟩
                case measure => simp [intOf]; omega
            · have HR2 : Hid (RdT s (k + 2) (b ++ [s.getD (k + 1) 0])) := HR.out.esc2 hp c0 c1
              generalize s.getD (k + 1) 0 = e1 at *
              have hel := e1.toNat_lt
              have hcase : (((e1.toNat : Int)) == 120) = false ∨ ((((e1.toNat : Int)) == 120) = true ∧ ¬ (k : Int) + 3 < (s.length : Int)) := by
                by_cases h : e1 = 120
                · exact .inr ⟨by rw [h]; rfl, (by have hq : ¬ k + 3 < s.length := fun q => c1 ⟨h, q⟩; omega)⟩
                · exact .inl (by rw [beq_eq_false_iff_ne]; exact fun e => h (UInt8.toNat_inj.1 (by show e1.toNat = 120; omega)))
              clear c0 c1 HY0 HD
              rcases hcase with hc1 | ⟨hc1, hc2⟩
              · go_wp2_with (at_builtin; refine wpList_append_gb wr _ rfl _ _ rfl _ _ b e1 rfl rfl HG.out ?hBel ?hSrc ?hLen ?_)
                case hBel => exact (Below.refl _ _).alloc (Nat.le_refl _) _
                case hSrc => exact src_gb wr e1 5
                case hLen => have := HBL.out; omega
                intro v' w3 hg3
                obtain ⟨a3, c3, rfl⟩ := hg3.slice
                have HG3 : Hid (Gb w w3 (.slice a3 (b ++ [e1]).length c3) (b ++ [e1])) := hg3
                have hbl3 : (b ++ [e1]).length = b.length + 1 := by simp
                have HBL3 : Hid ((b ++ [e1]).length ≤ s.length) := by unfold Hid; rw [hbl3]; exact HB1.out
                generalize b ++ [e1] = b3 at *
                obtain ⟨n3, hn3⟩ : ∃ n, b3.length = n := ⟨_, rfl⟩
                rw [hn3] at hbl3 ⊢
                clear hg3
                go_wp2
                go_roundw
                case rel => exact ⟨k + 2, b3, a3, c3, by omega, by omega, by go_num, by rw [hn3], HR2, by omega, HBL3, by rw [hn3]; rw [hn3] at HG3; exact HG3⟩
                case measure => simp [intOf]; omega
              · go_wp2_with (at_builtin; refine wpList_append_gb wr _ rfl _ _ rfl _ _ b e1 rfl rfl HG.out ?hBel ?hSrc ?hLen ?_)
                case hBel => exact (Below.refl _ _).alloc (Nat.le_refl _) _
                case hSrc => exact src_gb wr e1 5
                case hLen => have := HBL.out; omega
                intro v' w3 hg3
                obtain ⟨a3, c3, rfl⟩ := hg3.slice
                have HG3 : Hid (Gb w w3 (.slice a3 (b ++ [e1]).length c3) (b ++ [e1])) := hg3
                have hbl3 : (b ++ [e1]).length = b.length + 1 := by simp
                have HBL3 : Hid ((b ++ [e1]).length ≤ s.length) := by unfold Hid; rw [hbl3]; exact HB1.out
                generalize b ++ [e1] = b3 at *
                obtain ⟨n3, hn3⟩ : ∃ n, b3.length = n := ⟨_, rfl⟩
                rw [hn3] at hbl3 ⊢
                clear hg3
                go_wp2
                go_roundw
                case rel => exact ⟨k + 2, b3, a3, c3, by omega, by omega, by go_num, by rw [hn3], HR2, by omega, HBL3, by rw [hn3]; rw [hn3] at HG3; exact HG3⟩
                case measure => simp [intOf]; omega
          · have HR2 : Hid (RdT s (k + 1) (b ++ [s.getD k 0])) := HR.out.plain hp c0
            have hy0' : (((ba s)[k]'hk0).toNat : Int) = ((s.getD k 0).toNat : Int) := hy0.trans HY0.out
            clear hy0
            have hc0 : ((((s.getD k 0).toNat : Int)) == 92) = false := by
              rw [beq_eq_false_iff_ne]
              exact fun e => c0 (UInt8.toNat_inj.1 (by show (s.getD k 0).toNat = 92; omega))
            clear HY0 c0 HD
            generalize s.getD k 0 = e1 at *
            have hel := e1.toNat_lt
            go_wp2_with (at_builtin; refine wpList_append_gb wr _ rfl _ _ rfl _ _ b e1 rfl rfl HG.out ?hBel ?hSrc ?hLen ?_)
            case hBel => exact (Below.refl _ _).alloc (Nat.le_refl _) _
            case hSrc => exact src_gb wr e1 5
            case hLen => have := HBL.out; omega
            intro v' w3 hg3
            obtain ⟨a3, c3, rfl⟩ := hg3.slice
            have HG3 : Hid (Gb w w3 (.slice a3 (b ++ [e1]).length c3) (b ++ [e1])) := hg3
            have hbl3 : (b ++ [e1]).length = b.length + 1 := by simp
            have HBL3 : Hid ((b ++ [e1]).length ≤ s.length) := by unfold Hid; rw [hbl3]; exact HB1.out
            generalize b ++ [e1] = b3 at *
            obtain ⟨n3, hn3⟩ : ∃ n, b3.length = n := ⟨_, rfl⟩
            rw [hn3] at hbl3 ⊢
            clear hg3
            go_wp2
            go_roundw
            case rel => exact ⟨k + 1, b3, a3, c3, by omega, by omega, by go_num, by rw [hn3], HR2, by omega, HBL3, by rw [hn3]; rw [hn3] at HG3; exact HG3⟩
            case measure => simp [intOf]; omega
        · have hki : ¬ (k : Int) < (s.length : Int) - 1 := by omega
          have HF : Hid (∀ x, s = txt x → b = x) := HD.out k b HR.out hp
          have hcv := conv_gb HG.out wr (Below.refl _ _)
          have HBB : Hid (Below w.heap.size w wr) := HG.out.below
          clear HD
          go_wp2
          go_ret
          exact ⟨⟨b, rfl, HBL.out, HF.out⟩, HBB.out⟩
    · have hz34 : (z != 34) = true := by
        rw [bne_iff_ne]
        exact fun e => h2 (UInt8.toNat_inj.1 (by have := HZ.out; rw [e] at this; show (s.getD 0 0).toNat = 34; omega))
      have HT : Hid (∀ x, s = txt x → s = x) := txt_bare (.inr h2)
      clear h2
      go_enter Tryz.func84, Tryz.ntmps84
      go_wp2
      go_ret
      exact ⟨⟨s, rfl, Nat.le_refl _, HT.out⟩, Below.refl _ _⟩
end Go.Proofs.YtlnppgjppfkocaaGreatDoor.Xs
