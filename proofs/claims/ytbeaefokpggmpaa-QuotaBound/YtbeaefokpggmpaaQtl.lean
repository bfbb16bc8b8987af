import Derived.Test.YtbeaefokpggmpaaQti
import Derived.Test.YtbeaefokpggmpaaQtj
/-! quota: the bucket's bound, plainly; what the law's walk keeps. -/
namespace Go.Proofs.Ytbeaefokpggmpaa
open Go.RowKit
set_option linter.unusedVariables false

/-- The sum of the first k. -/
def sumTo (l : List Int) (k : Nat) : Int := (l.take k).sum
theorem sumTo_succ (l : List Int) (k : Nat) (h : k < l.length) : sumTo l (k + 1) = sumTo l k + l.getD k 0 := by
  unfold sumTo
  rw [List.take_succ_eq_append_getElem h, List.sum_append]
  simp [List.getD_eq_getElem?_getD, List.getElem?_eq_getElem h]
theorem sumTo_app (l : List Int) (x : Int) (k : Nat) (h : k ≤ l.length) : sumTo (l ++ [x]) k = sumTo l k := by
  unfold sumTo; rw [List.take_append_of_le_length h]
theorem sumTo_all (l : List Int) (x : Int) : sumTo (l ++ [x]) (l.length + 1) = sumTo l l.length + x := by
  rw [sumTo_succ _ _ (by simp), sumTo_app _ _ _ (Nat.le_refl _)]
  simp [List.getD_eq_getElem?_getD]

/-- What was taken so far: the ticks T, the tokens N, of a bucket b at the tick at_, from the tick now on. -/
structure BInv (num den burst now : Int) (b : Bk) (at_ : Int) (T N : List Int) : Prop where
  good : b.Good
  en : b.num = num
  ed : b.den = den
  eb : b.burst = burst
  ea : b.at_ = at_
  len : N.length = T.length
  tick : ∀ i, i < T.length → now ≤ T.getD i 0 ∧ T.getD i 0 ≤ at_
  rise : ∀ i k, i ≤ k → k < T.length → T.getD i 0 ≤ T.getD k 0
  few : ∀ i, i < N.length → 0 ≤ N.getD i 0 ∧ N.getD i 0 ≤ 1073741824
  now_ : now ≤ at_
  sums : ∀ i, i < T.length → (sumTo N N.length - sumTo N i) * den + b.parts ≤ burst * den + num * (at_ - T.getD i 0)
  done : ∀ i k, i ≤ k → k < T.length → (sumTo N (k + 1) - sumTo N i) * den ≤ burst * den + num * (T.getD k 0 - T.getD i 0)

theorem BInv.new {num den burst now : Int} (h : (fullB num den burst now).Good) : BInv num den burst now (fullB num den burst now) now [] [] :=
  ⟨h, rfl, rfl, rfl, rfl, rfl, by simp, by simp, by simp, Int.le_refl _, by simp, by simp⟩

theorem fill_parts {b : Bk} (h : b.Good) {t : Int} (h1 : b.at_ ≤ t) (h2 : t < 1125899906842624) : (fillP b t).parts ≤ b.parts + b.num * (t - b.at_) ∧ (fillP b t).parts ≤ b.burst * b.den := by
  by_cases hlt : b.at_ < t
  · rw [fillP_pos h hlt (k := t) (by omega), Bk.withP_parts h]; omega
  · rw [fillP_neg hlt]
    have := h.prod
    have e : t - b.at_ = 0 := by omega
    rw [e]
    unfold Bk.parts
    omega

theorem BInv.wait {num den burst now : Int} {b : Bk} {at_ t : Int} {T N : List Int} (h : BInv num den burst now b at_ T N) (h1 : at_ ≤ t) (h2 : t < 1125899906842624) : BInv num den burst now (fillP b t) t T N := by
  have hp := fill_parts h.good (t := t) (by rw [h.ea]; exact h1) h2
  rw [h.en, h.ea] at hp
  obtain ⟨l, p, a, hf⟩ := fillP_same b t
  have hat := fill_at h.good (now := t) (by rw [h.ea]; exact h1) h2
  refine ⟨h.good.fill t, by rw [hf]; exact h.en, by rw [hf]; exact h.ed, by rw [hf]; exact h.eb, hat, h.len, fun i hi => ?_, h.rise, h.few, ?_, fun i hi => ?_, h.done⟩
  · have := h.tick i hi; omega
  · have := h.now_; omega
  · have h3 := h.sums i hi
    have e : num * (t - T.getD i 0) = num * (at_ - T.getD i 0) + num * (t - at_) := by rw [← Int.mul_add]; congr 1; omega
    omega
theorem getD_app_l (T : List Int) (x : Int) {i : Nat} (h : i < T.length) : (T ++ [x]).getD i 0 = T.getD i 0 := by simp [List.getD_eq_getElem?_getD, List.getElem?_append_left h]
theorem getD_app_r (T : List Int) (x : Int) : (T ++ [x]).getD T.length 0 = x := by simp [List.getD_eq_getElem?_getD]
theorem less_parts (b : Bk) (n : Int) : Bk.parts { b with lvl := b.lvl - n } = b.parts - n * b.den := by unfold Bk.parts; simp only [Int.sub_mul]; omega
theorem Bk.Good.less {b : Bk} (h : b.Good) {n : Int} (h0 : 0 ≤ n) (h1 : n ≤ b.lvl) : Bk.Good { b with lvl := b.lvl - n } :=
  ⟨h.n0, h.n1, h.d0, h.d1, h.b0, h.b1, by simp only; omega, by have := h.l1; simp only; omega, h.p0, h.p1, fun e => by
    have := h.l1
    simp only at e
    have : n = 0 := by omega
    exact h.f (by omega), h.a0, h.a1⟩
theorem BInv.take {num den burst now : Int} {b : Bk} {at_ n : Int} {T N : List Int} (h : BInv num den burst now b at_ T N) (h0 : 0 ≤ n) (h1 : n ≤ b.lvl) :
    BInv num den burst now { b with lvl := b.lvl - n } at_ (T ++ [at_]) (N ++ [n]) := by
  have hg := h.good.less h0 h1
  have hlp : Bk.parts { b with lvl := b.lvl - n } = b.parts - n * den := by rw [less_parts, h.ed]
  have hpp : 0 ≤ Bk.parts { b with lvl := b.lvl - n } := by
    have := hg.prod
    have := hg.p0
    unfold Bk.parts
    omega
  have hpb : b.parts ≤ burst * den := by
    have := h.good.prod
    rw [h.ed, h.eb] at this
    unfold Bk.parts
    rw [h.ed]
    omega
  have hl := h.len
  have hlb := h.good.l1
  have hbb := h.good.b1
  have sum' : ∀ i, i < (T ++ [at_]).length → (sumTo (N ++ [n]) (N ++ [n]).length - sumTo (N ++ [n]) i) * den + Bk.parts { b with lvl := b.lvl - n } ≤ burst * den + num * (at_ - (T ++ [at_]).getD i 0) := fun i hi => by
    simp only [List.length_append, List.length_cons, List.length_nil] at hi ⊢
    rw [sumTo_all, sumTo_app _ _ _ (show i ≤ N.length by omega), hlp]
    by_cases e : i = T.length
    · subst e
      rw [getD_app_r, ← hl, Int.sub_self, Int.mul_zero]
      have : sumTo N N.length + n - sumTo N N.length = n := by omega
      rw [this]
      omega
    · rw [getD_app_l _ _ (by omega)]
      have h3 := h.sums i (by omega)
      have e2 : (sumTo N N.length + n - sumTo N i) * den = (sumTo N N.length - sumTo N i) * den + n * den := by rw [← Int.add_mul]; congr 1; omega
      omega
  refine ⟨hg, h.en, h.ed, h.eb, h.ea, by simp [hl], fun i hi => ?_, fun i k hik hk => ?_, fun i hi => ?_, h.now_, sum', fun i k hik hk => ?_⟩
  · simp only [List.length_append, List.length_cons, List.length_nil] at hi
    by_cases e : i = T.length
    · subst e; rw [getD_app_r]; exact ⟨h.now_, Int.le_refl _⟩
    · rw [getD_app_l _ _ (by omega)]; exact h.tick i (by omega)
  · simp only [List.length_append, List.length_cons, List.length_nil] at hk
    by_cases e : k = T.length
    · subst e
      rw [getD_app_r]
      by_cases e2 : i = T.length
      · subst e2; rw [getD_app_r]; exact Int.le_refl _
      · rw [getD_app_l _ _ (by omega)]; exact (h.tick i (by omega)).2
    · rw [getD_app_l _ _ (by omega), getD_app_l _ _ (by omega)]; exact h.rise i k hik (by omega)
  · simp only [List.length_append, List.length_cons, List.length_nil] at hi
    by_cases e : i = N.length
    · subst e; rw [getD_app_r]; omega
    · rw [getD_app_l _ _ (by omega)]; exact h.few i (by omega)
  · simp only [List.length_append, List.length_cons, List.length_nil] at hk
    by_cases e : k = T.length
    · subst e
      have h9 := sum' i (by simp; omega)
      have e3 : (N ++ [n]).length = T.length + 1 := by simp [hl]
      rw [e3] at h9
      rw [getD_app_r]
      omega
    · rw [sumTo_app _ _ _ (by omega), sumTo_app _ _ _ (by omega), getD_app_l _ _ (by omega), getD_app_l _ _ (by omega)]
      exact h.done i k hik (by omega)
theorem sumTo_small {N : List Int} (h : ∀ i, i < N.length → 0 ≤ N.getD i 0 ∧ N.getD i 0 ≤ 1073741824) : ∀ k, k ≤ N.length → 0 ≤ sumTo N k ∧ sumTo N k ≤ 1073741824 * (k : Int)
  | 0, _ => by simp [sumTo]
  | k + 1, hk => by
    have h1 := sumTo_small h k (by omega)
    have h2 := h k (by omega)
    rw [sumTo_succ N k (by omega)]
    omega
theorem sumTo_le {N : List Int} (h : ∀ i, i < N.length → 0 ≤ N.getD i 0 ∧ N.getD i 0 ≤ 1073741824) {i : Nat} : ∀ k, i ≤ k → k ≤ N.length → sumTo N i ≤ sumTo N k
  | 0, h1, _ => by have : i = 0 := by omega
                   subst this; exact Int.le_refl _
  | k + 1, h1, h2 => by
    by_cases e : i = k + 1
    · subst e; exact Int.le_refl _
    · have h3 := sumTo_le h (i := i) k (by omega) (by omega)
      have h4 := h k (by omega)
      rw [sumTo_succ N k (by omega)]
      omega
/-- What comes in, by whole tokens. -/
theorem in_eq {num den x : Int} (hd : 1 ≤ den) (hn : 0 ≤ num) : num / den * x + num % den * x / den = num * x / den := by
  have e := Int.mul_ediv_add_emod num den
  have : num * x = num % den * x + (num / den * x) * den := by
    conv => lhs; rw [← e]
    rw [Int.add_mul, Int.mul_comm den, Int.mul_assoc, Int.mul_comm den x, ← Int.mul_assoc]
    omega
  rw [this, Int.add_mul_ediv_right _ _ (by omega : den ≠ 0)]
  omega
theorem BInv.bound {num den burst now : Int} {b : Bk} {at_ : Int} {T N : List Int} (h : BInv num den burst now b at_ T N) {i k : Nat} (hik : i ≤ k) (hk : k < T.length) :
    sumTo N (k + 1) - sumTo N i ≤ burst + (num / den * (T.getD k 0 - T.getD i 0) + num % den * (T.getD k 0 - T.getD i 0) / den) := by
  have hd := h.good.d0
  have hn := h.good.n0
  rw [h.ed] at hd
  rw [h.en] at hn
  rw [in_eq hd (by omega)]
  have h1 := h.done i k hik hk
  have h2 : (sumTo N (k + 1) - sumTo N i - burst) * den ≤ num * (T.getD k 0 - T.getD i 0) := by rw [Int.sub_mul]; omega
  have h3 := (Int.le_ediv_iff_mul_le (show 0 < den by omega)).2 h2
  omega

theorem put_block (w : World) (g : Nat) (b : Bk) (k : Nat) (hk : k ≠ g) : (putBk w g b).heap[k]? = w.heap[k]? := by
  unfold putBk
  rw [Below.heap_setCell _ _ _ _ hk, Below.heap_setCell _ _ _ _ hk, Below.heap_setCell _ _ _ _ hk, Below.heap_setCell _ _ _ _ hk, Below.heap_setCell _ _ _ _ hk, Below.heap_setCell _ _ _ _ hk]
theorem put_grow (w : World) (g : Nat) (b : Bk) : w.grownBy (putBk w g b) (some g) := grow_setCells w g 0 [.int .i64 b.num, .int .i64 b.den, .int .i64 b.burst, .int .i64 b.lvl, .int .i64 b.part, .int .i64 b.at_]
theorem put_frozen (w : World) (g : Nat) (b : Bk) (a : Addr) : (putBk w g b).frozen? a = w.frozen? a := by unfold putBk; simp only [World.frozen?_setCell]
theorem put_at {w : World} {g : Nat} {b c : Bk} (h : BkAt w g b) : BkAt (putBk w g c) g c := by
  have e : putBk w g c = w.setCells g 0 [.int .i64 c.num, .int .i64 c.den, .int .i64 c.burst, .int .i64 c.lvl, .int .i64 c.part, .int .i64 c.at_] := rfl
  have hin : ∀ j, j < 6 → (w.cell? ⟨g, 0 + j, none⟩).isSome = true := fun j hj => by
    match j, hj with
    | 0, _ => rw [Nat.zero_add, h.c0]; rfl
    | 1, _ => rw [Nat.zero_add, h.c1]; rfl
    | 2, _ => rw [Nat.zero_add, h.c2]; rfl
    | 3, _ => rw [Nat.zero_add, h.c3]; rfl
    | 4, _ => rw [Nat.zero_add, h.c4]; rfl
    | 5, _ => rw [Nat.zero_add, h.c5]; rfl
  have hc := fun j hj => World.cell?_setCells_in g [.int .i64 c.num, .int .i64 c.den, .int .i64 c.burst, .int .i64 c.lvl, .int .i64 c.part, .int .i64 c.at_] 0 w (fun m hm => hin m (by simpa using hm)) j hj
  rw [e]
  refine ⟨?_, ?_, ?_, ?_, ?_, ?_⟩
  · simpa using hc 0 (by simp)
  · simpa using hc 1 (by simp)
  · simpa using hc 2 (by simp)
  · simpa using hc 3 (by simp)
  · simpa using hc 4 (by simp)
  · simpa using hc 5 (by simp)
/-- A bucket is put in a box that was made empty. -/
theorem box_put {w w1 : World} (h : Below w.heap.size w w1) (num den burst lvl part at_ : Int) : ∃ v u, w1.alloc (.cells #[.int .i64 0, .int .i64 0, .int .i64 0, .int .i64 0, .int .i64 0, .int .i64 0] 23) = v ∧
    (((((v.setCell ⟨w1.heap.size, 0, none⟩ (.int .i64 num)).setCell ⟨w1.heap.size, 1, none⟩ (.int .i64 den)).setCell ⟨w1.heap.size, 2, none⟩ (.int .i64 burst)).setCell ⟨w1.heap.size, 3, none⟩ (.int .i64 lvl)).setCell ⟨w1.heap.size, 4, none⟩ (.int .i64 part)).setCell ⟨w1.heap.size, 5, none⟩ (.int .i64 at_) = u ∧
    Box w v w1.heap.size Bk.zero ∧ Box w u w1.heap.size ⟨num, den, burst, lvl, part, at_⟩ :=
  ⟨_, _, rfl, rfl, (Box.zero w1).over h, by
    have hz := (Box.zero w1).over h
    exact ⟨put_at (c := ⟨num, den, burst, lvl, part, at_⟩) hz.at_, putBk_below ⟨num, den, burst, lvl, part, at_⟩ hz.bel hz.ge, hz.ge, fun j => (put_frozen _ w1.heap.size ⟨num, den, burst, lvl, part, at_⟩ _).trans (hz.fr j)⟩⟩
/-- What the law's walk holds: the bucket's box, the two rows. -/
structure BW (W w : World) (gb : Nat) (b : Bk) (vt vk : Value) (T N : List Int) (rt rk : Option Nat) : Prop where
  bel : Below W.heap.size W w
  box : BkAt w gb b
  fr : ∀ j, w.frozen? ⟨gb, j, none⟩ = false
  ge : W.heap.size ≤ gb
  t : OwnL w vt T rt
  k : OwnL w vk N rk
  nt : ∀ g, rt = some g → W.heap.size ≤ g ∧ g ≠ gb
  nk : ∀ g, rk = some g → W.heap.size ≤ g ∧ g ≠ gb
  ap : ∀ g, rt = some g → rk ≠ some g
theorem BW.later {W w w' : World} {gb : Nat} {b : Bk} {vt vk : Value} {T N : List Int} {rt rk : Option Nat} (h : BW W w gb b vt vk T N rt rk) (k : Below w.heap.size w w') : BW W w' gb b vt vk T N rt rk :=
  ⟨h.bel.trans (k.mono h.bel.size), h.box.later k, fun j => by rw [k.frozen (p := ⟨gb, j, none⟩) h.box.lt]; exact h.fr j, h.ge, h.t.later k, h.k.later k, h.nt, h.nk, h.ap⟩
theorem BW.put {W w : World} {gb : Nat} {b : Bk} {vt vk : Value} {T N : List Int} {rt rk : Option Nat} (h : BW W w gb b vt vk T N rt rk) (c : Bk) : BW W (putBk w gb c) gb c vt vk T N rt rk :=
  ⟨putBk_below c h.bel h.ge, put_at h.box, fun j => by rw [put_frozen]; exact h.fr j, h.ge,
    h.t.kept (put_grow w gb c) (by cases rt with | none => exact .inl rfl | some g => exact .inr (fun e => (h.nt g rfl).2 (by simpa using e))),
    h.k.kept (put_grow w gb c) (by cases rk with | none => exact .inl rfl | some g => exact .inr (fun e => (h.nk g rfl).2 (by simpa using e))), h.nt, h.nk, h.ap⟩
theorem grown_box {w w' : World} {r : Option Nat} {gb : Nat} {b : Bk} (h : BkAt w gb b) (hg : w.grownBy w' r) (hne : r ≠ some gb) : w'.heap[gb]? = w.heap[gb]? := hg.block gb h.lt (fun e => hne e.symm)
/-- The ticks are made longer. -/
theorem BW.moreT {W w w' : World} {gb : Nat} {b : Bk} {vt vk vt' : Value} {T T' N : List Int} {rt rk rt' : Option Nat} (h : BW W w gb b vt vk T N rt rk) (ho : OwnL w' vt' T' rt') (hg : w.grownBy w' rt) (hr : rt' = rt ∨ rt' = some w.heap.size) : BW W w' gb b vt' vk T' N rt' rk := by
  have hbk := grown_box h.box hg (fun e => (h.nt gb e).2 rfl)
  have hlt := h.box.lt
  refine ⟨h.bel.grown hg h.bel.size (fun k hk => (h.nt k hk).1), h.box.block hbk, fun j => by rw [World.frozen?_of_block (w := w) (a := ⟨gb, j, none⟩) hbk]; exact h.fr j, h.ge, ho, ?_, fun g e => ?_, h.nk, fun g e => ?_⟩
  · refine h.k.kept hg ?_
    cases rk with
    | none => exact .inl rfl
    | some g => exact .inr (fun e => h.ap g e.symm rfl)
  · rcases hr with rfl | rfl
    · exact h.nt g e
    · simp at e; subst e
      exact ⟨h.bel.size, by omega⟩
  · rcases hr with rfl | rfl
    · exact h.ap g e
    · simp at e; subst e
      intro e2
      have hk := h.k
      rw [e2] at hk
      have := hk.lt
      omega
theorem BW.moreN {W w w' : World} {gb : Nat} {b : Bk} {vt vk vk' : Value} {T N N' : List Int} {rt rk rk' : Option Nat} (h : BW W w gb b vt vk T N rt rk) (ho : OwnL w' vk' N' rk') (hg : w.grownBy w' rk) (hr : rk' = rk ∨ rk' = some w.heap.size) : BW W w' gb b vt vk' T N' rt rk' := by
  have hbk := grown_box h.box hg (fun e => (h.nk gb e).2 rfl)
  have hlt := h.box.lt
  refine ⟨h.bel.grown hg h.bel.size (fun k hk => (h.nk k hk).1), h.box.block hbk, fun j => by rw [World.frozen?_of_block (w := w) (a := ⟨gb, j, none⟩) hbk]; exact h.fr j, h.ge, ?_, ho, h.nt, fun g e => ?_, fun g e => ?_⟩
  · refine h.t.kept hg ?_
    cases rt with
    | none => exact .inl rfl
    | some g => exact .inr (fun e => h.ap g rfl e.symm)
  · rcases hr with rfl | rfl
    · exact h.nk g e
    · simp at e; subst e
      exact ⟨h.bel.size, by omega⟩
  · rcases hr with rfl | rfl
    · exact h.ap g e
    · intro e2
      simp at e2
      subst e2
      subst e
      have := h.t.lt
      omega
/-- A new box for a bucket. -/
theorem BW.boxB {W w : World} {gb : Nat} {b : Bk} {vt vk : Value} {T N : List Int} {rt rk : Option Nat} (h : BW W w gb b vt vk T N rt rk) (num den burst lvl part at_ : Int) : ∃ v, w.alloc (.cells #[.int .i64 num, .int .i64 den, .int .i64 burst, .int .i64 lvl, .int .i64 part, .int .i64 at_] 23) = v ∧
    Box W v w.heap.size ⟨num, den, burst, lvl, part, at_⟩ ∧ BW W v gb b vt vk T N rt rk ∧ w.heap.size ≠ gb ∧ rt ≠ some w.heap.size ∧ rk ≠ some w.heap.size :=
  ⟨_, rfl, (Box.new w ⟨num, den, burst, lvl, part, at_⟩).over h.bel, h.later (Box.new w ⟨num, den, burst, lvl, part, at_⟩).bel, by have := h.box.lt; omega, fun e => by have := h.t; rw [e] at this; have := this.lt; omega, fun e => by have := h.k; rw [e] at this; have := this.lt; omega⟩
/-- A bucket in another box. -/
theorem BW.boxA {W w0 w : World} {gb : Nat} {b z b0 : Bk} {vt vk : Value} {T N : List Int} {rt rk : Option Nat} (h0 : BW W w0 gb b0 vt vk T N rt rk) (h : BW W w gb b vt vk T N rt rk) (hq : Box w0 w w0.heap.size z) (num den burst lvl part at_ : Int) : ∃ v,
    (((((w.setCell ⟨w0.heap.size, 0, none⟩ (.int .i64 num)).setCell ⟨w0.heap.size, 1, none⟩ (.int .i64 den)).setCell ⟨w0.heap.size, 2, none⟩ (.int .i64 burst)).setCell ⟨w0.heap.size, 3, none⟩ (.int .i64 lvl)).setCell ⟨w0.heap.size, 4, none⟩ (.int .i64 part)).setCell ⟨w0.heap.size, 5, none⟩ (.int .i64 at_) = v ∧
    Box W v w0.heap.size ⟨num, den, burst, lvl, part, at_⟩ ∧ BW W v gb b vt vk T N rt rk ∧ w0.heap.size ≠ gb ∧ rt ≠ some w0.heap.size ∧ rk ≠ some w0.heap.size := by
  obtain ⟨c, hc⟩ : ∃ c : Bk, c = ⟨num, den, burst, lvl, part, at_⟩ := ⟨_, rfl⟩
  have hlt := h0.box.lt
  have hge : W.heap.size ≤ w0.heap.size := h0.bel.size
  have hput : Below W.heap.size W (putBk w w0.heap.size c) := putBk_below c h.bel hge
  have hbk : (putBk w w0.heap.size c).heap[gb]? = w.heap[gb]? := put_block w _ c gb (by omega)
  refine ⟨_, rfl, ?_, ?_, by omega, fun e => by have := h0.t; rw [e] at this; have := this.lt; omega, fun e => by have := h0.k; rw [e] at this; have := this.lt; omega⟩
  · have : Box W (putBk w w0.heap.size c) w0.heap.size c := ⟨put_at hq.at_, hput, hge, fun j => by rw [put_frozen]; exact hq.fr j⟩
    rw [hc] at this
    exact this
  · have : BW W (putBk w w0.heap.size c) gb b vt vk T N rt rk := ⟨hput, h.box.block hbk, fun j => by rw [put_frozen]; exact h.fr j, h.ge,
      h.t.kept (put_grow w _ c) (by
        cases rt with
        | none => exact .inl rfl
        | some g => exact .inr (fun e => by simp at e; have := h0.t.lt; omega)),
      h.k.kept (put_grow w _ c) (by
        cases rk with
        | none => exact .inl rfl
        | some g => exact .inr (fun e => by simp at e; have := h0.k.lt; omega)), h.nt, h.nk, h.ap⟩
    rw [hc] at this
    exact this
theorem run_lvl (f1 f2 f3 f4 f5 f6 : Int) (w : World) : (Instr.field 23 (.agg #[.int .i64 f1, .int .i64 f2, .int .i64 f3, .int .i64 f4, .int .i64 f5, .int .i64 f6]) 3).run Try.prog w = .ok (.int .i64 f4) w := by
  unfold Instr.field
  simp only [go_sem]
  rfl
theorem Box.grown {W w w' : World} {g : Nat} {b : Bk} {r : Option Nat} (h : Box W w g b) (hg : w.grownBy w' r) (hr : r ≠ some g) (hW : ∀ k, r = some k → W.heap.size ≤ k) : Box W w' g b := by
  have hbk := grown_box h.at_ hg hr
  exact ⟨h.at_.block hbk, h.bel.grown hg h.bel.size hW, h.ge, fun j => by rw [World.frozen?_of_block (w := w) (a := ⟨g, j, none⟩) hbk]; exact h.fr j⟩
end Go.Proofs.Ytbeaefokpggmpaa
