import Derived.Test.YtjhbaplnkigifaaQk04
import Derived.Test.YtjhbaplnkigifaaQk03
/-! Rows of values of one cell each. -/
namespace Go.Proofs.Ytjhbaplnkigifaa
open Go.RowKit Plain
set_option linter.unusedVariables false

def OwnV (w : World) (v : Value) (vs : List Value) (r : Option Nat) : Prop :=
  (v = .slice none 0 0 ∧ vs = [] ∧ r = none) ∨
  ∃ g cap, r = some g ∧ v = .slice (some ⟨g, 0, none⟩) vs.length cap ∧ g < w.heap.size ∧ vs.length ≤ cap ∧ cap ≤ maxLen ∧ (∀ j, j < cap → w.frozen? ⟨g, j, none⟩ = false) ∧ (∀ j, j < cap → (w.cell? ⟨g, j, none⟩).isSome = true) ∧
    ∀ j, j < vs.length → w.cell? ⟨g, j, none⟩ = vs[j]?
theorem OwnV.nil (w : World) : OwnV w (.slice none 0 0) [] none := .inl ⟨rfl, rfl, rfl⟩
theorem OwnV.of_block {w w' : World} {v : Value} {vs : List Value} {r : Option Nat} (h : OwnV w v vs r) (hs : w.heap.size ≤ w'.heap.size) (hb : ∀ g, r = some g → w'.heap[g]? = w.heap[g]?) : OwnV w' v vs r := by
  rcases h with h0 | ⟨g, cap, rfl, rfl, hg, h1, h2, h3, h4, h5⟩
  · exact .inl h0
  · have hb := hb g rfl
    refine .inr ⟨g, cap, rfl, rfl, Nat.lt_of_lt_of_le hg hs, h1, h2, fun j hj => ?_, fun j hj => ?_, fun j hj => ?_⟩
    · rw [World.frozen?_of_block (w := w) (a := ⟨g, j, none⟩) hb]; exact h3 j hj
    · rw [World.cell?_of_block (w := w) (a := ⟨g, j, none⟩) hb]; exact h4 j hj
    · rw [World.cell?_of_block (w := w) (a := ⟨g, j, none⟩) hb]; exact h5 j hj
theorem Own.of_block {w w' : World} {v : Value} {l : List Nat} {r : Option Nat} (h : Own w v l r) (hs : w.heap.size ≤ w'.heap.size) (hb : ∀ g, r = some g → w'.heap[g]? = w.heap[g]?) : Own w' v l r := by
  refine ⟨h.1, ?_⟩
  rcases h.2 with h0 | ⟨g, cap, rfl, rfl, hg, h1, h2, h3, h4, h5⟩
  · exact .inl h0
  · have hb := hb g rfl
    refine .inr ⟨g, cap, rfl, rfl, Nat.lt_of_lt_of_le hg hs, h1, h2, fun j hj => ?_, fun j hj => ?_, fun j hj => ?_⟩
    · rw [World.frozen?_of_block (w := w) (a := ⟨g, j, none⟩) hb]; exact h3 j hj
    · rw [World.cell?_of_block (w := w) (a := ⟨g, j, none⟩) hb]; exact h4 j hj
    · rw [World.cell?_of_block (w := w) (a := ⟨g, j, none⟩) hb]; exact h5 j hj
theorem OwnV.kept {w w' : World} {v : Value} {vs : List Value} {r r' : Option Nat} (h : OwnV w v vs r) (k : w.grownBy w' r') (hne : r = none ∨ r ≠ r') : OwnV w' v vs r := by
  refine h.of_block k.size (fun g e => ?_)
  subst e
  have hlt : g < w.heap.size := by
    rcases h with ⟨_, _, e⟩ | ⟨g', _, e, _, hg, _⟩
    · simp at e
    · simp at e; omega
  exact k.block g hlt (by rcases hne with h | h <;> simp_all)
theorem OwnV.lt {w : World} {v : Value} {vs : List Value} {g : Nat} (h : OwnV w v vs (some g)) : g < w.heap.size := by
  rcases h with ⟨_, _, e⟩ | ⟨g', _, e, _, hg, _⟩
  · simp at e
  · simp at e; omega
theorem OwnV.shape {w : World} {v : Value} {vs : List Value} {r : Option Nat} (h : OwnV w v vs r) : ∃ a cap, v = .slice a vs.length cap ∧ cap ≤ maxLen ∧ vs.length ≤ cap := by
  rcases h with ⟨rfl, rfl, h⟩ | ⟨g', cap, e, rfl, hg, h1, h2, _⟩
  · exact ⟨none, 0, rfl, by simp, by simp⟩
  · exact ⟨_, cap, rfl, h2, h1⟩
theorem OwnV.get {w : World} {a : Option Addr} {n c : Nat} {vs : List Value} {r : Option Nat} (h : OwnV w (.slice a n c) vs r) {j : Nat} {u : Value} (hj : vs[j]? = some u) : ∃ g, r = some g ∧ a = some ⟨g, 0, none⟩ ∧ w.cell? ⟨g, j, none⟩ = some u := by
  have hlt : j < vs.length := (List.getElem?_eq_some_iff.mp hj).1
  rcases h with ⟨_, rfl, _⟩ | ⟨g, cap, rfl, e, hg, h1, h2, h3, h4, h5⟩
  · simp at hlt
  · injection e with e1 e2 e3
    exact ⟨g, rfl, e1, by rw [h5 j hlt, hj]⟩

theorem run_append_val (w : World) (t ty e : TypeId) (i : TypeInfo) (z : Value) (ht : Try.prog.underlying t = some (.slice e)) (hi : Try.prog.info? e = some i) (hz0 : i.zero = some z) (hzc : z.cells.size = 1) (hz1 : i.size = 1) (hz2 : i.bytes ≤ 16)
    (v x u : Value) (vs : List Value) (r : Option Nat) (hown : OwnV w v vs r) (hs : Src Try.prog 1 t x 1 [u] w) (hlen : vs.length ≤ 4398046511104) :
    ∃ v' w' g, (Builtin.append_ #[t, t] ty #[v, x]).run Try.prog w = .ok v' w' ∧ OwnV w' v' (vs ++ [u]) (some g) ∧ w.grownBy w' r ∧ (some g = r ∨ g = w.heap.size) := by
  have hs' : Src Try.prog i.size t x 1 [u] w := by rw [hz1]; exact hs
  have hl2 : (vs ++ [u]).length = vs.length + 1 := by simp
  have grow : ∀ (base : Option Addr) (sCap : Nat), (Builtin.firstCells i.size vs.length (.slice base vs.length sCap)).run Try.prog w.drew = .ok vs.toArray w.drew → sCap < vs.length + 1 →
      ∃ v' w' g, (Builtin.append_ #[t, t] ty #[.slice base vs.length sCap, x]).run Try.prog w = .ok v' w' ∧ OwnV w' v' (vs ++ [u]) (some g) ∧ w.grownBy w' r ∧ (some g = r ∨ g = w.heap.size) := by
    intro base sCap hold hg
    have hfit : (vs.length + 1) * i.bytes ≤ 140737488355328 := Nat.le_trans (Nat.mul_le_mul_left _ hz2) (by omega)
    have hr := run_append_grow_src (P := Try.prog) w t t ty e i z ht hi hz0 base vs.length sCap vs hold x 1 [u] hs' hg (by omega) (growslice_fits hg hfit)
    have hge := grownCap_ge w (vs.length + 1) sCap e
    have hcm := grownCap_le_maxLen w (vs.length + 1) sCap e (by unfold maxLen; omega)
    refine ⟨_, _, w.heap.size, hr, ?_, ⟨rfl, rfl, rfl, by simp, fun k hk _ => heap_alloc_old w.drew _ hk⟩, .inr rfl⟩
    obtain ⟨C, hC⟩ : ∃ C, (vs ++ [u]).toArray ++ Builtin.zeroCells z.cells (grownCap w (vs.length + 1) sCap e - (vs.length + 1)) = C := ⟨_, rfl⟩
    have hCs : C.size = grownCap w (vs.length + 1) sCap e := by
      rw [← hC, Array.size_append, List.size_toArray, size_zeroCells, hzc, hl2]
      omega
    have hCg : ∀ j, j < vs.length + 1 → C[j]? = (vs ++ [u])[j]? := fun j hj => by
      rw [← hC, Array.getElem?_append_left (by rw [List.size_toArray, hl2]; exact hj), List.getElem?_toArray]
    rw [hC]
    refine .inr ⟨w.heap.size, grownCap w (vs.length + 1) sCap e, rfl, by rw [hl2], by simp, by rw [hl2]; exact hge, hcm, fun j hj => ?_, fun j hj => ?_, fun j hj => ?_⟩
    · exact World.frozen?_alloc_at _ _ _ _ rfl
    · show ((w.drew.alloc (Obj.cells C e)).cell? ⟨w.drew.heap.size, j, none⟩).isSome = true
      rw [World.cell?_alloc_at _ _ _ _ rfl, Array.getElem?_eq_getElem (by omega)]; rfl
    · rw [hl2] at hj
      show (w.drew.alloc (Obj.cells C e)).cell? ⟨w.drew.heap.size, j, none⟩ = _
      rw [World.cell?_alloc_at _ _ _ _ rfl]; exact hCg j hj
  rcases hown with ⟨rfl, rfl, rfl⟩ | ⟨g, cap, rfl, rfl, hg, h1, h2, h3, h4, h5⟩
  · exact grow none 0 (by rw [List.length_nil]; exact run_firstCells_none w.drew _ _ _ _) (by simp)
  · by_cases hroom : vs.length + 1 ≤ cap
    · have hr := run_append_room_src (P := Try.prog) w t t ty e i ht hi g 0 vs.length cap x 1 [u] hs' hroom
        (fun j hj => by rw [hz1]; simp at hj; subst hj; simpa using h4 vs.length (by omega))
        (fun j hj => by rw [hz1]; simp at hj; subst hj; simpa using h3 vs.length (by omega))
      rw [hz1, Nat.zero_add, Nat.mul_one] at hr
      refine ⟨_, _, g, hr, .inr ⟨g, cap, rfl, by rw [hl2], ?_, by omega, h2, fun j hj => ?_, fun j hj => ?_, fun j hj => ?_⟩, grow_setCells w g _ _, .inl rfl⟩
      · rw [setCells_size]; exact hg
      · rw [World.frozen?_setCells]; exact h3 j hj
      · exact isSome_setCells g _ _ w _ (h4 j hj)
      · rw [hl2] at hj
        by_cases hj' : j < vs.length
        · rw [World.cell?_setCells_out g _ _ w _ (fun _ _ => .inl hj'), h5 j hj', List.getElem?_append_left hj']
        · obtain rfl : j = vs.length := by omega
          have := World.cell?_setCells_in g [u] vs.length w (fun m hm => h4 _ (by simp at hm; omega)) 0 (by simp)
          rw [Nat.add_zero] at this
          rw [this]
          simp
    · refine grow _ cap ?_ (by omega)
      rw [hz1]
      refine run_firstCells_some w.drew 1 vs.length ⟨g, 0, none⟩ _ _ vs (by omega) (fun j u hj => ?_)
      have hjl : j < vs.length := (List.getElem?_eq_some_iff.mp hj).1
      rw [WideShapes.add_plain, Nat.zero_add]
      show w.cell? ⟨g, j, none⟩ = some u
      rw [h5 j hjl, hj]

theorem wpList_append_val {ops : Array Oper} {rest : List Oper} {o : Oper} {a : Act} {Q : Exit → Act → World → Prop} (w : World) (hgd : o.guard = none) (s x : Operand) (t e : TypeId) (i : TypeInfo) (z : Value)
    (ho : o.op = .call { callee := .builtin .append, args := #[s, x], argTypes := #[t, t] }) (ht : Try.prog.underlying t = some (.slice e)) (hi : Try.prog.info? e = some i) (hz0 : i.zero = some z) (hzc : z.cells.size = 1) (hz1 : i.size = 1) (hz2 : i.bytes ≤ 16)
    (v xv u : Value) (vs : List Value) (r : Option Nat)
    (hs : a.eval s = v) (hx : a.eval x = xv) (hown : OwnV w v vs r) (hsrc : Src Try.prog 1 t xv 1 [u] w) (hlen : vs.length ≤ 4398046511104)
    (h : ∀ v' w' g, OwnV w' v' (vs ++ [u]) (some g) → w.grownBy w' r → (some g = r ∨ g = w.heap.size) → wpList Try.prog ops Q rest (a.put o.dst v') w') : wpList Try.prog ops Q (o :: rest) a w :=
  wpList_plain hgd fun _ hK => by
    obtain ⟨v', w', g, hr, h1, h2, h3⟩ := run_append_val w t o.type e i z ht hi hz0 hzc hz1 hz2 v xv u vs r hown hsrc hlen
    unfold Oper.wp execOp
    simp only [ho, resolve, invoke, builtin, Sem.run_bind, Sem.run_pure, Result.andThen_ok, List.map_toArray, List.map_cons, List.map_nil, hs, hx, hr]
    exact hK _ _ (h v' w' g h1 h2 h3)
theorem src_val (w : World) (u : Value) (hu : u.oneCell' = true) (t e ty : TypeId) (ht : Try.prog.underlying t = some (.slice e)) : Src Try.prog 1 t (.slice (some ⟨w.heap.size, 0, none⟩) 1 1) 1 [u] (w.alloc (.cells #[u] ty)) :=
  Src.ofSlice _ ht _ 1 1 _ (by simp) (fun j x hj => by
    rw [WideShapes.add_plain, World.cell?_alloc_at _ _ _ _ rfl, Nat.zero_add]
    rw [← hj]; simp) (fun x hx => by rw [List.mem_singleton] at hx; subst hx; exact hu)
theorem src_val' (w : World) (b : Nat) (hb : w.heap.size = b) (u : Value) (hu : u.oneCell' = true) (t e ty : TypeId) (ht : Try.prog.underlying t = some (.slice e)) : Src Try.prog 1 t (.slice (some ⟨b, 0, none⟩) 1 1) 1 [u] (w.alloc (.cells #[u] ty)) := by
  subst hb
  exact src_val w u hu t e ty ht
end Go.Proofs.Ytjhbaplnkigifaa

/-! keydir: the lowest key, or any, is taken out of a tree. -/
namespace Go.Proofs.Ytjhbaplnkigifaa
open Go.RowKit Plain
set_option linter.unusedVariables false

theorem TreeAt.weak {P Q : Nat → Prop} {w : World} (hPQ : ∀ g, P g → Q g) : ∀ {n : Nat} {p : Option Addr} {l : List Ke}, TreeAt P w n p l → TreeAt Q w n p l
  | 0, p, l, h => h
  | n + 1, p, l, h => by
    rcases h with h | ⟨g, k, pl, pr, ll, lr, e, hp, hk, hn, hl, h1, h2⟩
    · exact .inl h
    · exact .inr ⟨g, k, pl, pr, ll, lr, e, hPQ g hp, hk, hn, hl, h1.weak hPQ, h2.weak hPQ⟩
theorem TreeAt.tight {P Q : Nat → Prop} {w : World} (hPQ : ∀ g, P g → g < w.heap.size → Q g) : ∀ {n : Nat} {p : Option Addr} {l : List Ke}, TreeAt P w n p l → TreeAt Q w n p l
  | 0, p, l, h => h
  | n + 1, p, l, h => by
    rcases h with h | ⟨g, k, pl, pr, ll, lr, e, hp, hk, hn, hl, h1, h2⟩
    · exact .inl h
    · exact .inr ⟨g, k, pl, pr, ll, lr, e, hPQ g hp hn.lt, hk, hn, hl, h1.tight hPQ, h2.tight hPQ⟩
def putKe (w : World) (g : Nat) (k : Ke) : World := (((((((w.setCell ⟨g, 0, none⟩ (.string k.key)).setCell ⟨g, 1, none⟩ (.int .i64 k.e.seg)).setCell ⟨g, 2, none⟩ (.int .i64 k.e.pos)).setCell ⟨g, 3, none⟩ (.int .i64 k.e.size)).setCell ⟨g, 4, none⟩ (.int .i64 k.e.off)).setCell ⟨g, 5, none⟩ (.int .i64 k.e.time)).setCell ⟨g, 6, none⟩ (.bool k.e.tomb))
theorem putKe_grow (w : World) (g : Nat) (k : Ke) : w.grownBy (putKe w g k) (some g) := grow_setCells w g 0 [.string k.key, .int .i64 k.e.seg, .int .i64 k.e.pos, .int .i64 k.e.size, .int .i64 k.e.off, .int .i64 k.e.time, .bool k.e.tomb]
theorem grown_drew {w w' : World} {r : Option Nat} (h : w.grownBy w' r) : w.grownBy w'.drew r := ⟨h.os, h.tape, h.output, h.size, h.block⟩
theorem TreeAt.grown {P : Nat → Prop} {w w' : World} {n g : Nat} {p : Option Addr} {l : List Ke} (h : TreeAt P w n p l) (hg : w.grownBy w' (some g)) (hne : ∀ j, P j → j ≠ g) : TreeAt P w' n p l := h.kept fun j hj hp => hg.block j hj (fun e => hne j hp (by cases e; rfl))
theorem hresCut : Try.f54.results = #[.cell 2 58, .tmp 3] := by kernel_rfl

def CutPost (P : Nat → Prop) (w : World) (l : List Ke) (e : Ending) (w' : World) : Prop :=
  ∃ (n : Nat) (q : Option Addr) (x : Ke) (rest : List Ke), l = x :: rest ∧ x.key.size ≤ 64 ∧ e = .returned (.tuple #[x.v, .pointer q]) ∧ TreeAt P w' n q rest ∧ Below w.heap.size w w'

set_option maxHeartbeats 4000000 in
theorem cutOf : ∀ (n : Nat) (P : Nat → Prop) (w : World) (p : Option Addr) (l : List Ke), (∀ g, w.heap.size ≤ g → P g) → TreeAt P w n p l → l ≠ [] → l.length ≤ 1125899906842620 → Calls Try.prog 54 #[.pointer p] w (CutPost P w l) := by
  intro n
  induction n with
  | zero =>
    intro P w p l hP ht hne hl
    exact absurd ht.2 hne
  | succ n ih0 =>
  intro P w p l hP ht hne hl
  cases p with
  | none => exact absurd ht.none_is hne
  | some ar =>
  obtain ⟨m', g, k, pl, pr, ll, lr, hm, rfl, hPg, hkk, hng, rfl, hl1, hr1⟩ := ht.some_is
  have hm' : m' = n := by omega
  subst hm'
  have hlen : (ll ++ k :: lr).length = ll.length + lr.length + 1 := by simp; omega
  rw [hlen] at hl hng
  have hgw : g < w.heap.size := hng.lt
  have HNR : Hid (∀ u, Below w.heap.size w u → NodeAt u g k (ll.length + lr.length + 1) pl pr) := fun u hu => hng.block (hu.block _ hng.lt)
  clear ht hng
  cases pl with
  | none =>
    obtain rfl := hl1.none_is
    obtain ⟨w0, hw0⟩ : ∃ w0, w.alloc (.cells #[.string ⟨#[]⟩, .int .i64 0, .int .i64 0, .int .i64 0, .int .i64 0, .int .i64 0, .bool false] 58) = w0 := ⟨_, rfl⟩
    have hb0 : Below w.heap.size w w0 := by rw [← hw0]; exact (Below.refl _ _).alloc (Nat.le_refl _) _
    obtain ⟨r0, r1, r2, r3, r4, r5, r6⟩ : KeAt w0 w.heap.size Ke.zero := by rw [← hw0]; exact KeAt.new w Ke.zero
    simp only [Ke.zero, En.zero] at r0 r1 r2 r3 r4 r5 r6
    have hsf : ∀ j, w0.frozen? ⟨w.heap.size, j, none⟩ = false := fun j => by rw [← hw0]; exact World.frozen?_alloc_at _ _ _ _ rfl
    obtain ⟨c0, c1, c2, c3, c4, c5, c6, c7, c8, c9⟩ := HNR.out w0 hb0
    have f0 := hsf 0
    have f1 := hsf 1
    have f2 := hsf 2
    have f3 := hsf 3
    have f4 := hsf 4
    have f5 := hsf 5
    have f6 := hsf 6
    go_enter Try.func54, Try.ntmps54
    have hne1 : ¬ g = w.heap.size := by omega
    have hne2 : ¬ w.heap.size = g := by omega
    go_wp2
    go_region_held3 (fun w' => w'.cell? ⟨g, 0, none⟩ = some (.string k.key) ∧ w'.cell? ⟨g, 1, none⟩ = some (.int .i64 k.e.seg) ∧ w'.cell? ⟨g, 2, none⟩ = some (.int .i64 k.e.pos) ∧ w'.cell? ⟨g, 3, none⟩ = some (.int .i64 k.e.size) ∧ w'.cell? ⟨g, 4, none⟩ = some (.int .i64 k.e.off) ∧ w'.cell? ⟨g, 5, none⟩ = some (.int .i64 k.e.time) ∧ w'.cell? ⟨g, 6, none⟩ = some (.bool k.e.tomb) ∧ w'.cell? ⟨g, 9, none⟩ = some (.pointer pr)) (go_keep) (fail)
    have HG : Hid (w0.grownBy (putKe w0 w.heap.size k).drew (some w.heap.size)) := grown_drew (putKe_grow w0 w.heap.size k)
    have HBF : Hid (Below w.heap.size w (putKe w0 w.heap.size k).drew) := hb0.trans (grow_below HG.out hb0.size (fun g e => by cases e; exact Nat.le_refl _))
    have HT : Hid (TreeAt P (putKe w0 w.heap.size k).drew m' pr lr) := (TreeAt.tight (Q := P) (fun _ h _ => h) hr1).kept fun j hj hp => HBF.out.block j hj
    go_wp2
    refine bodyPost_ret (v := .tuple #[k.v, .pointer pr]) ?_ rfl ⟨_, pr, k, lr, rfl, hkk, rfl, HT.out, HBF.out⟩
    simp only [results, hresCut]
    go_simp
  | some al =>
    have hln : ll ≠ [] := by
      obtain ⟨_, _, _, _, _, _, _, _, _, _, _, _, h, _⟩ := hl1.some_is
      rw [h]; simp
    obtain ⟨w0, hw0⟩ : ∃ w0, w.alloc (.cells #[.string ⟨#[]⟩, .int .i64 0, .int .i64 0, .int .i64 0, .int .i64 0, .int .i64 0, .bool false] 58) = w0 := ⟨_, rfl⟩
    have hb0 : Below w.heap.size w w0 := by rw [← hw0]; exact (Below.refl _ _).alloc (Nat.le_refl _) _
    have hs0 : w.heap.size < w0.heap.size := by rw [← hw0]; simp
    have HPU : Hid (∀ u, Below w0.heap.size w0 u → ∀ g, u.heap.size ≤ g → P g ∧ g ≠ w.heap.size) := fun u hu g hg => by have := hu.size; exact ⟨hP g (by omega), by omega⟩
    have HL1 : Hid (∀ u, Below w.heap.size w u → TreeAt (fun g => P g ∧ g ≠ w.heap.size) u m' (some al) ll) := fun u hu => (TreeAt.tight (fun g h1 h2 => ⟨h1, by omega⟩) hl1).later hu
    have HR1 : Hid (∀ u, Below w.heap.size w u → TreeAt (fun g => P g ∧ g ≠ w.heap.size) u m' pr lr) := fun u hu => (TreeAt.tight (fun g h1 h2 => ⟨h1, by omega⟩) hr1).later hu
    have HRS : Hid (∀ u, Below w0.heap.size w0 u → KeAt u w.heap.size Ke.zero ∧ ∀ j, u.frozen? ⟨w.heap.size, j, none⟩ = false) := fun u hu => by
      have h : KeAt w0 w.heap.size Ke.zero := by rw [← hw0]; exact KeAt.new w Ke.zero
      refine ⟨h.block (hu.block _ h.lt), fun j => ?_⟩
      rw [hu.frozen (p := ⟨w.heap.size, j, none⟩) h.lt, ← hw0]
      exact World.frozen?_alloc_at _ _ _ _ rfl
    have HCU : Hid (Calls Try.prog 54 #[.pointer (some al)] w0 (CutPost (fun g => P g ∧ g ≠ w.heap.size) w0 ll)) := ih0 _ w0 (some al) ll (HPU.out w0 (Below.refl _ _)) (HL1.out w0 hb0) hln (by omega)
    obtain ⟨c0, c1, c2, c3, c4, c5, c6, c7, c8, c9⟩ := HNR.out w0 hb0
    clear ih0 hl1 hr1
    go_enter Try.func54, Try.ntmps54
    go_wp2_with fail
    refine HCU.out.mono ?_
    rintro e w1 ⟨n1, q1, x1, rest1, hx1, hk1, rfl, ht1, hb1⟩
    subst hx1
    have hsz1 := hb1.size
    have HB1 : Hid (Below w.heap.size w w1) := hb0.trans (hb1.mono hb0.size)
    obtain ⟨w2, hw2⟩ : ∃ w2, w1.alloc (.cells #[.string x1.key, .int .i64 x1.e.seg, .int .i64 x1.e.pos, .int .i64 x1.e.size, .int .i64 x1.e.off, .int .i64 x1.e.time, .bool x1.e.tomb] 58) = w2 := ⟨_, rfl⟩
    have hb12 : Below w1.heap.size w1 w2 := by rw [← hw2]; exact (Below.refl _ _).alloc (Nat.le_refl _) _
    have hb02 : Below w0.heap.size w0 w2 := hb1.trans (hb12.mono hsz1)
    have hb2 : Below w.heap.size w w2 := hb0.trans (hb02.mono hb0.size)
    have HX : Hid (∀ u, Below w2.heap.size w2 u → KeAt u w1.heap.size x1) := fun u hu => by
      have h : KeAt w2 w1.heap.size x1 := by rw [← hw2]; exact KeAt.new w1 x1
      exact h.block (hu.block _ h.lt)
    have HT1 : Hid (TreeAt (fun g => P g ∧ g ≠ w.heap.size) w2 n1 q1 rest1) := ht1.later hb12
    have HBA : Hid (∀ u, Below w2.heap.size w2 u → Calls Try.prog 53 #[k.v, .pointer q1, .pointer pr] u (TreeRet (fun g => P g ∧ g ≠ w.heap.size) u (rest1 ++ k :: lr))) := fun u hu => balancedOf k u (HPU.out u (hb02.trans (hu.mono hb02.size))) hkk (HT1.out.later hu) (HR1.out u (hb2.trans (hu.mono hb2.size))) (by simp at hl; omega)
    have HRS2 : Hid (∀ u, Below w2.heap.size w2 u → KeAt u w.heap.size Ke.zero ∧ ∀ j, u.frozen? ⟨w.heap.size, j, none⟩ = false) := fun u hu => HRS.out u (hb02.trans (hu.mono hb02.size))
    have HBW2 : Hid (Below w.heap.size w w2) := hb2
    have hne1 : ¬ g = w.heap.size := by omega
    have hne2 : ¬ w.heap.size = g := by omega
    have hne3 : ¬ w1.heap.size = w.heap.size := by omega
    have hne4 : ¬ w.heap.size = w1.heap.size := by omega
    clear c0 c1 c2 c3 c4 c5 c6 c7 c8 c9 ht1 hb1 HRS HCU hb12 hb02
    obtain ⟨c0, c1, c2, c3, c4, c5, c6, c7, c8, c9⟩ := HNR.out w2 hb2
    obtain ⟨d0, d1, d2, d3, d4, d5, d6⟩ := HX.out w2 (Below.refl _ _)
    go_wp2
    go_region_held3 (fun w' => w'.cell? ⟨g, 0, none⟩ = some (.string k.key) ∧ w'.cell? ⟨g, 1, none⟩ = some (.int .i64 k.e.seg) ∧ w'.cell? ⟨g, 2, none⟩ = some (.int .i64 k.e.pos) ∧ w'.cell? ⟨g, 3, none⟩ = some (.int .i64 k.e.size) ∧ w'.cell? ⟨g, 4, none⟩ = some (.int .i64 k.e.off) ∧ w'.cell? ⟨g, 5, none⟩ = some (.int .i64 k.e.time) ∧ w'.cell? ⟨g, 6, none⟩ = some (.bool k.e.tomb) ∧ w'.cell? ⟨g, 9, none⟩ = some (.pointer pr) ∧ w'.cell? ⟨w1.heap.size, 0, none⟩ = some (.string x1.key) ∧ w'.cell? ⟨w1.heap.size, 1, none⟩ = some (.int .i64 x1.e.seg) ∧ w'.cell? ⟨w1.heap.size, 2, none⟩ = some (.int .i64 x1.e.pos) ∧ w'.cell? ⟨w1.heap.size, 3, none⟩ = some (.int .i64 x1.e.size) ∧ w'.cell? ⟨w1.heap.size, 4, none⟩ = some (.int .i64 x1.e.off) ∧ w'.cell? ⟨w1.heap.size, 5, none⟩ = some (.int .i64 x1.e.time) ∧ w'.cell? ⟨w1.heap.size, 6, none⟩ = some (.bool x1.e.tomb)) (go_keep) (first
      | (go_at_call 53
         refine (HBA.out _ (Below.drew (Below.refl _ _))).mono ?_
         rintro e w3 ⟨n3, p3, rfl, ht3, hb3⟩
         have hb23 : Below w2.heap.size w2 w3 := (Below.drew (Below.refl _ w2)).trans hb3
         have HB3 : Hid (Below w.heap.size w w3) := HBW2.out.trans (hb23.mono HBW2.out.size)
         have HT3 : Hid (TreeAt (fun g => P g ∧ g ≠ w.heap.size) w3 n3 p3 (rest1 ++ k :: lr)) := ht3
         rcases HNR.out w3 HB3.out with ⟨a0, a1, a2, a3, a4, a5, a6, a7, a8, a9⟩
         rcases HX.out w3 hb23 with ⟨b0, b1, b2, b3, b4, b5, b6⟩
         rcases (HRS2.out w3 hb23).1 with ⟨r0, r1, r2, r3, r4, r5, r6⟩
         simp only [Ke.zero, En.zero] at r0 r1 r2 r3 r4 r5 r6
         have f0 := (HRS2.out w3 hb23).2 0
         have f1 := (HRS2.out w3 hb23).2 1
         have f2 := (HRS2.out w3 hb23).2 2
         have f3 := (HRS2.out w3 hb23).2 3
         have f4 := (HRS2.out w3 hb23).2 4
         have f5 := (HRS2.out w3 hb23).2 5
         have f6 := (HRS2.out w3 hb23).2 6
         clear ht3 hb3 HBA))
    have HG : Hid (w3.grownBy (putKe w3 w.heap.size x1) (some w.heap.size)) := putKe_grow w3 w.heap.size x1
    have HBF : Hid (Below w.heap.size w (putKe w3 w.heap.size x1)) := HB3.out.trans (grow_below HG.out HB3.out.size (fun g e => by cases e; exact Nat.le_refl _))
    have HT : Hid (TreeAt P (putKe w3 w.heap.size x1) n3 p3 (rest1 ++ k :: lr)) := (HT3.out.grown HG.out (fun j h => h.2)).weak fun _ h => h.1
    go_wp2
    refine bodyPost_ret (v := .tuple #[x1.v, .pointer p3]) ?_ rfl ⟨_, p3, x1, rest1 ++ k :: lr, rfl, hk1, rfl, HT.out, HBF.out⟩
    simp only [results, hresCut]
    go_simp
end Go.Proofs.Ytjhbaplnkigifaa

/-! keydir: a key is taken out of a tree. -/
namespace Go.Proofs.Ytjhbaplnkigifaa
open Go.RowKit Plain
set_option linter.unusedVariables false

set_option maxHeartbeats 8000000 in
theorem withoutOf (P : Nat → Prop) (key : ByteArray) (hk : key.size ≤ maxLen) : ∀ (n : Nat) (w : World) (p : Option Addr) (l : List Ke), (∀ g, w.heap.size ≤ g → P g) → TreeAt P w n p l → Srt l → findL key l ≠ none → l.length ≤ 1125899906842620 → Calls Try.prog 45 #[.pointer p, .string key] w (TreeRet P w (delL key l)) := by
  intro n
  induction n with
  | zero =>
    intro w p l hP ht hs hf hl
    obtain ⟨rfl, rfl⟩ := ht
    simp [findL] at hf
  | succ n ih0 =>
  intro w p l hP ht hs hf hl
  cases p with
  | none =>
    obtain rfl := ht.none_is
    simp [findL] at hf
  | some ar =>
  obtain ⟨m', g, k, pl, pr, ll, lr, hm, rfl, hPg, hkk, hng, rfl, hl1, hr1⟩ := ht.some_is
  have hm' : m' = n := by omega
  subst hm'
  have ih : ∀ (w : World) (p : Option Addr) (l : List Ke), (∀ g, w.heap.size ≤ g → P g) → TreeAt P w m' p l → Srt l → findL key l ≠ none → l.length ≤ 1125899906842620 → Calls Try.prog 45 #[.pointer p, .string key] w (TreeRet P w (delL key l)) := ih0
  have hlen : (ll ++ k :: lr).length = ll.length + lr.length + 1 := by simp; omega
  rw [hlen] at hl hng
  have hsp := hs.parts
  have HPU : Hid (∀ u, Below w.heap.size w u → ∀ g, u.heap.size ≤ g → P g) := fun u hu g hg => hP g (Nat.le_trans hu.size hg)
  have HNR : Hid (∀ u, Below w.heap.size w u → NodeAt u g k (ll.length + lr.length + 1) pl pr) := fun u hu => hng.block (hu.block _ hng.lt)
  have HCM : Hid (∀ u, Calls Try.prog 46 #[.string key, .string k.key] u fun e w' => e = .returned (.int .i64 (kc key k.key)) ∧ Below u.heap.size u w') := fun u => compare key k.key u hk (by unfold maxLen; omega)
  obtain ⟨c0, c1, c2, c3, c4, c5, c6, c7, c8, c9⟩ := HNR.out w (Below.refl _ _)
  clear ht hng ih0
  go_enter Try.func45, Try.ntmps45
  go_wp2_with fail
  refine (HCM.out _).mono ?_
  rintro e w1 ⟨rfl, hb1⟩
  have HB1 : Hid (Below w.heap.size w w1) := hb1
  clear c0 c1 c2 c3 c4 c5 c6 c7 c8 c9 hb1
  obtain ⟨c0, c1, c2, c3, c4, c5, c6, c7, c8, c9⟩ := HNR.out w1 HB1.out
  rcases kc_range key k.key with hc | hc | hc
  · rw [hc]
    have hf1 : findL key ll ≠ none := by rw [← findL_lt hs hc]; exact hf
    have HW : Hid (∀ u, Below w.heap.size w u → Calls Try.prog 45 #[.pointer pl, .string key] u (TreeRet P u (delL key ll))) := fun u hu => ih u pl ll (HPU.out u hu) (hl1.later hu) hsp.1 hf1 (by omega)
    have HBA : Hid (∀ u n p, Below w.heap.size w u → TreeAt P u n p (delL key ll) → Calls Try.prog 53 #[k.v, .pointer p, .pointer pr] u (TreeRet P u (delL key ll ++ k :: lr))) := fun u n p hu ht => balancedOf k u (HPU.out u hu) hkk ht (hr1.later hu) (by have := delL_len key ll; omega)
    go_wp2
    go_region_held3 (fun w' => w'.cell? ⟨g, 0, none⟩ = some (.string k.key) ∧ w'.cell? ⟨g, 1, none⟩ = some (.int .i64 k.e.seg) ∧ w'.cell? ⟨g, 2, none⟩ = some (.int .i64 k.e.pos) ∧ w'.cell? ⟨g, 3, none⟩ = some (.int .i64 k.e.size) ∧ w'.cell? ⟨g, 4, none⟩ = some (.int .i64 k.e.off) ∧ w'.cell? ⟨g, 5, none⟩ = some (.int .i64 k.e.time) ∧ w'.cell? ⟨g, 6, none⟩ = some (.bool k.e.tomb) ∧ w'.cell? ⟨g, 8, none⟩ = some (.pointer pl) ∧ w'.cell? ⟨g, 9, none⟩ = some (.pointer pr)) (go_keep) (first
      | (go_at_call 45
         refine (HW.out _ (by first | exact HB1.out | exact Below.drew HB1.out)).mono ?_
         rintro e w2 ⟨n2, p2, rfl, ht2, hb2⟩
         have hb12 : Below w1.heap.size w1 w2 := (Below.drew (Below.refl _ w1)).trans hb2
         have HB2 : Hid (Below w.heap.size w w2) := HB1.out.trans (hb12.mono HB1.out.size)
         have HT2 : Hid (TreeAt P w2 n2 p2 (delL key ll)) := ht2
         rcases HNR.out w2 HB2.out with ⟨x0, x1, x2, x3, x4, x5, x6, x7, x8, x9⟩
         clear ht2 hb2 HW)
      | (go_at_call 53
         refine (HBA.out _ _ _ HB2.out HT2.out).mono ?_
         rintro e w3 ⟨n3, p3, rfl, ht3, hb3⟩
         have HB3 : Hid (Below w.heap.size w w3) := HB2.out.trans (hb3.mono HB2.out.size)
         have HT3 : Hid (TreeAt P w3 n3 p3 (delL key ll ++ k :: lr)) := ht3
         rcases HNR.out w3 HB3.out with ⟨z0, z1, z2, z3, z4, z5, z6, z7, z8, z9⟩
         clear ht3 hb3))
    go_wp2
    go_ret
    exact ⟨n3, p3, rfl, by rw [delL_lt hs hc]; exact HT3.out, HB3.out⟩
  · rw [hc]
    have hde := delL_eq hs hc
    cases hpr : pr with
    | none =>
      rw [hpr] at hr1 c9
      have hlr := hr1.none_is
      subst hlr hpr
      have HF : Hid (TreeRet P w (delL key (ll ++ [k])) (.returned (.pointer pl)) w1) := ⟨_, pl, rfl, by rw [hde, List.append_nil]; exact hl1.later HB1.out, HB1.out⟩
      clear hde
      go_wp2
      go_ret
      exact HF.out
    | some arr =>
      rw [hpr] at hr1 c9
      have hln : lr ≠ [] := by
        obtain ⟨_, _, _, _, _, _, _, _, _, _, _, _, h, _⟩ := hr1.some_is
        rw [h]; simp
      have HNR2 : Hid (∀ u, Below w.heap.size w u → NodeAt u g k (ll.length + lr.length + 1) pl (some arr)) := by rw [← hpr]; exact HNR
      have HCU : Hid (Calls Try.prog 54 #[.pointer (some arr)] w1 (CutPost P w1 lr)) := cutOf _ P w1 (some arr) lr (HPU.out w1 HB1.out) (hr1.later HB1.out) hln (by omega)
      have HDE : Hid (delL key (ll ++ k :: lr) = ll ++ lr) := hde
      clear hpr hde HNR
      go_wp2_with fail
      refine HCU.out.mono ?_
      rintro e w2 ⟨n1, q1, x1, rest1, hx1, hk1, rfl, ht1, hb1⟩
      have HXE : Hid (lr = x1 :: rest1) := hx1
      have hlr2 : lr.length = rest1.length + 1 := by rw [hx1]; simp
      have hb2 : Below w.heap.size w w2 := HB1.out.trans (hb1.mono HB1.out.size)
      obtain ⟨w3, hw3⟩ : ∃ w3, w2.alloc (.cells #[.string x1.key, .int .i64 x1.e.seg, .int .i64 x1.e.pos, .int .i64 x1.e.size, .int .i64 x1.e.off, .int .i64 x1.e.time, .bool x1.e.tomb] 58) = w3 := ⟨_, rfl⟩
      have hb23 : Below w2.heap.size w2 w3 := by rw [← hw3]; exact (Below.refl _ _).alloc (Nat.le_refl _) _
      have hb3 : Below w.heap.size w w3 := hb2.trans (hb23.mono hb2.size)
      have HX : Hid (∀ u, Below w3.heap.size w3 u → KeAt u w2.heap.size x1) := fun u hu => by
        have h : KeAt w3 w2.heap.size x1 := by rw [← hw3]; exact KeAt.new w2 x1
        exact h.block (hu.block _ h.lt)
      have HT1 : Hid (TreeAt P w3 n1 q1 rest1) := ht1.later hb23
      have HBA : Hid (∀ u, Below w3.heap.size w3 u → Calls Try.prog 53 #[x1.v, .pointer pl, .pointer q1] u (TreeRet P u (ll ++ x1 :: rest1))) := fun u hu => balancedOf x1 u (HPU.out u (hb3.trans (hu.mono hb3.size))) hk1 (hl1.later (hb3.trans (hu.mono hb3.size))) (HT1.out.later hu) (by omega)
      have HBW3 : Hid (Below w.heap.size w w3) := hb3
      clear c0 c1 c2 c3 c4 c5 c6 c7 c8 c9 ht1 hb1 hb23 HCU hx1
      obtain ⟨c0, c1, c2, c3, c4, c5, c6, c7, c8, c9⟩ := HNR2.out w3 hb3
      obtain ⟨d0, d1, d2, d3, d4, d5, d6⟩ := HX.out w3 (Below.refl _ _)
      go_wp2
      go_region_held3 (fun w' => w'.cell? ⟨g, 8, none⟩ = some (.pointer pl) ∧ w'.cell? ⟨w2.heap.size, 0, none⟩ = some (.string x1.key) ∧ w'.cell? ⟨w2.heap.size, 1, none⟩ = some (.int .i64 x1.e.seg) ∧ w'.cell? ⟨w2.heap.size, 2, none⟩ = some (.int .i64 x1.e.pos) ∧ w'.cell? ⟨w2.heap.size, 3, none⟩ = some (.int .i64 x1.e.size) ∧ w'.cell? ⟨w2.heap.size, 4, none⟩ = some (.int .i64 x1.e.off) ∧ w'.cell? ⟨w2.heap.size, 5, none⟩ = some (.int .i64 x1.e.time) ∧ w'.cell? ⟨w2.heap.size, 6, none⟩ = some (.bool x1.e.tomb)) (go_keep) (first
        | (go_at_call 53
           refine (HBA.out _ (Below.drew (Below.refl _ _))).mono ?_
           rintro e w4 ⟨n4, p4, rfl, ht4, hb4⟩
           have hb34 : Below w3.heap.size w3 w4 := (Below.drew (Below.refl _ w3)).trans hb4
           have HB4 : Hid (Below w.heap.size w w4) := HBW3.out.trans (hb34.mono HBW3.out.size)
           have HT4 : Hid (TreeAt P w4 n4 p4 (ll ++ x1 :: rest1)) := ht4
           rcases HNR2.out w4 HB4.out with ⟨a0, a1, a2, a3, a4, a5, a6, a7, a8, a9⟩
           rcases HX.out w4 hb34 with ⟨b0, b1, b2, b3, b4, b5, b6⟩
           clear ht4 hb4 HBA))
      go_wp2
      go_ret
      exact ⟨n4, p4, rfl, by rw [HDE.out, HXE.out]; exact HT4.out, HB4.out⟩
  · rw [hc]
    have hf1 : findL key lr ≠ none := by rw [← findL_gt hs hc]; exact hf
    have HW : Hid (∀ u, Below w.heap.size w u → Calls Try.prog 45 #[.pointer pr, .string key] u (TreeRet P u (delL key lr))) := fun u hu => ih u pr lr (HPU.out u hu) (hr1.later hu) hsp.2.1 hf1 (by omega)
    have HBA : Hid (∀ u n p, Below w.heap.size w u → TreeAt P u n p (delL key lr) → Calls Try.prog 53 #[k.v, .pointer pl, .pointer p] u (TreeRet P u (ll ++ k :: delL key lr))) := fun u n p hu ht => balancedOf k u (HPU.out u hu) hkk (hl1.later hu) ht (by have := delL_len key lr; omega)
    go_wp2
    go_region_held3 (fun w' => w'.cell? ⟨g, 0, none⟩ = some (.string k.key) ∧ w'.cell? ⟨g, 1, none⟩ = some (.int .i64 k.e.seg) ∧ w'.cell? ⟨g, 2, none⟩ = some (.int .i64 k.e.pos) ∧ w'.cell? ⟨g, 3, none⟩ = some (.int .i64 k.e.size) ∧ w'.cell? ⟨g, 4, none⟩ = some (.int .i64 k.e.off) ∧ w'.cell? ⟨g, 5, none⟩ = some (.int .i64 k.e.time) ∧ w'.cell? ⟨g, 6, none⟩ = some (.bool k.e.tomb) ∧ w'.cell? ⟨g, 8, none⟩ = some (.pointer pl) ∧ w'.cell? ⟨g, 9, none⟩ = some (.pointer pr)) (go_keep) (first
      | (go_at_call 45
         refine (HW.out _ (by first | exact HB1.out | exact Below.drew HB1.out)).mono ?_
         rintro e w2 ⟨n2, p2, rfl, ht2, hb2⟩
         have hb12 : Below w1.heap.size w1 w2 := (Below.drew (Below.refl _ w1)).trans hb2
         have HB2 : Hid (Below w.heap.size w w2) := HB1.out.trans (hb12.mono HB1.out.size)
         have HT2 : Hid (TreeAt P w2 n2 p2 (delL key lr)) := ht2
         rcases HNR.out w2 HB2.out with ⟨x0, x1, x2, x3, x4, x5, x6, x7, x8, x9⟩
         clear ht2 hb2 HW)
      | (go_at_call 53
         refine (HBA.out _ _ _ HB2.out HT2.out).mono ?_
         rintro e w3 ⟨n3, p3, rfl, ht3, hb3⟩
         have HB3 : Hid (Below w.heap.size w w3) := HB2.out.trans (hb3.mono HB2.out.size)
         have HT3 : Hid (TreeAt P w3 n3 p3 (ll ++ k :: delL key lr)) := ht3
         rcases HNR.out w3 HB3.out with ⟨z0, z1, z2, z3, z4, z5, z6, z7, z8, z9⟩
         clear ht3 hb3))
    go_wp2
    go_ret
    exact ⟨n3, p3, rfl, by rw [delL_gt hs hc]; exact HT3.out, HB3.out⟩
end Go.Proofs.Ytjhbaplnkigifaa
