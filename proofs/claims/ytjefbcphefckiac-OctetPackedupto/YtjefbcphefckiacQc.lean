import Derived.Test.YtjefbcphefckiacQb
import Derived.Test.YtjefbcphefckiacUi
/-! What Unpack tells of packed items, in the law's own cases. -/
namespace Go.Proofs.Ytjefbcphefckiac
open Go.RowKit Plain
set_option linter.unusedVariables false

theorem OwnK.ints {w : World} {v : Value} {l : List Int} {r : Option Nat} (h : OwnK w v l r) : IntsAt w v l := by
  rcases h.2 with ⟨rfl, rfl, rfl⟩ | ⟨g, cap, rfl, rfl, hg, h1, h2, h3, h4, h5⟩
  · exact ⟨none, 0, rfl, by simp, by simp, by simp⟩
  · refine ⟨_, cap, rfl, by omega, h.1, fun _ => ⟨g, 0, rfl, fun j hj => ?_⟩⟩
    rw [Nat.zero_add]
    exact h5 j hj
theorem ints_one (w : World) (k : Int) (t : TypeId) (hk : -9223372036854775808 ≤ k ∧ k ≤ 9223372036854775807) : IntsAt (w.alloc (.cells #[.int .i64 k] t)) (.slice (some ⟨w.heap.size, 0, none⟩) 1 1) [k] := by
  refine ⟨_, 1, rfl, by simp [maxLen], by simpa using hk, fun _ => ⟨w.heap.size, 0, rfl, fun j hj => ?_⟩⟩
  obtain rfl : j = 0 := by simpa using hj
  simp
theorem bytes_one (w : World) (c : Nat) (t : TypeId) (hc : c < 256) : BytesAt (w.alloc (.cells #[.int .u8 (c : Int)] t)) (.slice (some ⟨w.heap.size, 0, none⟩) 1 1) [c] := by
  refine ⟨_, 1, rfl, by simp, by simp [maxLen], by simpa using hc, fun _ => ⟨w.heap.size, 0, rfl, fun j hj => ?_⟩⟩
  obtain rfl : j = 0 := by simpa using hj
  simp

def five : It := ⟨1, 5, ⟨#[]⟩⟩
theorem five_fit : Fit [five] 0 := ⟨by simp [five, It.fits, emp_of], fun x hx => by
    rw [List.mem_singleton] at hx; subst hx
    exact ⟨by show 5 < _; omega, by show 0 < _; omega⟩, fun x hx => by
    rw [List.mem_singleton] at hx; subst hx
    show ((0 : Nat) : Int) ≤ 0
    omega⟩
theorem five_flat : flat [five] = [5] := by
  simp [flat, five, It.bytes]
  exact uv_lt (by decide)

theorem unpackFirst (vk vb : Value) (w : World) (hk : IntsAt w vk [1]) (hb : BytesAt w vb [5]) :
    Calls Try.prog 6 #[vk, .int .i64 0, vb] w fun e w' => ∃ g cap p, e = .returned (.tuple #[.slice (some ⟨g, 0, none⟩) 1 cap, .agg #[.int .i64 0, .int .i64 p]]) ∧ w'.cell? ⟨g, 1, none⟩ = some (.int .u64 5) ∧ Below w.heap.size w w' := by
  refine (unpackAny vk vb [1] 0 [5] w hk hb (by decide) (by decide) (by decide) (by decide)).mono ?_
  rintro e w' ⟨v', r', rfl, ho, hr, hbl⟩
  obtain ⟨h1, h2⟩ := up_own [five] 0 five_fit
  rw [five_flat] at h1 h2
  rw [show [five].map It.k = [1] from rfl] at h1 h2
  rw [h2] at ho
  rw [h1]
  rcases ho with ⟨_, h, _⟩ | ⟨g, cap, rfl, rfl, hg, g1, g2, g3, g4, g5⟩
  · simp at h
  · refine ⟨g, cap, _, rfl, ?_, hbl⟩
    rw [g5 1 (by simp)]
    rfl

theorem first_bytes (w : World) : BytesAt (w.alloc (.cells #[.int .u8 5] 5)) (.slice (some ⟨w.heap.size, 0, none⟩) 1 1) [5] := bytes_one w 5 5 (by decide)
theorem unpackFirstAt (w : World) :
    Calls Try.prog 6 #[.slice (some ⟨w.heap.size, 0, none⟩) 1 1, .int .i64 0, .slice (some ⟨w.heap.size + 1, 0, none⟩) 1 1] ((w.alloc (.cells #[.int .i64 1] 3)).alloc (.cells #[.int .u8 5] 5)) fun e w' => ∃ g cap p, e = .returned (.tuple #[.slice (some ⟨g, 0, none⟩) 1 cap, .agg #[.int .i64 0, .int .i64 p]]) ∧ w'.cell? ⟨g, 1, none⟩ = some (.int .u64 5) ∧ Below w.heap.size w w' := by
  have h1 : IntsAt (w.alloc (.cells #[.int .i64 1] 3)) (.slice (some ⟨w.heap.size, 0, none⟩) 1 1) [1] := ints_one w 1 3 (by decide)
  have h2 := first_bytes (w.alloc (.cells #[.int .i64 1] 3))
  rw [show (w.alloc (.cells #[.int .i64 1] 3)).heap.size = w.heap.size + 1 by simp] at h2
  refine (unpackFirst _ _ _ (h1.later ((Below.refl _ _).alloc (Nat.le_refl _) _)) h2).mono ?_
  rintro e w1 ⟨g1, cap1, p1, rfl, hc1, hb1⟩
  exact ⟨g1, cap1, p1, rfl, hc1, below_on (((Below.refl _ _).alloc (Nat.le_refl _) _).alloc (by simp) _) hb1⟩

theorem unpackOwn (vk vb : Value) (st : List It) (most : Int) (w : World) (hf : Fit st most) (hk : IntsAt w vk (st.map It.k)) (hb : BytesAt w vb (flat st)) (hl : (flat st).length ≤ 140737488351232) (hkl : st.length ≤ 1099511627776) (hm1 : 0 ≤ most) (hm2 : most ≤ 9223372036854775807) :
    Calls Try.prog 6 #[vk, .int .i64 most, vb] w fun e w' => ∃ v' r' p, e = .returned (.tuple #[v', .agg #[.int .i64 0, .int .i64 p]]) ∧ OwnI w' v' st r' ∧ Below w.heap.size w w' := by
  refine (unpackAny vk vb _ most _ w hk hb hl (by simpa using hkl) (by omega) hm2).mono ?_
  rintro e w' ⟨v', r', rfl, ho, hr, hbl⟩
  obtain ⟨h1, h2⟩ := up_own st most hf
  rw [h2] at ho
  rw [h1]
  exact ⟨v', r', _, rfl, ho, hbl⟩
theorem unpackMore (vk vb : Value) (st : List It) (most : Int) (w : World) (hf : Fit st most) (hk : IntsAt w vk (st.map It.k)) (hb : BytesAt w vb (flat st ++ [0])) (hl : (flat st).length + 1 ≤ 140737488351232) (hkl : st.length ≤ 1099511627776) (hm1 : 0 ≤ most) (hm2 : most ≤ 9223372036854775807) :
    Calls Try.prog 6 #[vk, .int .i64 most, vb] w fun e w' => ∃ v', e = .returned (.tuple #[v', .agg #[.int .i64 13, .int .i64 ((flat st).length : Nat)]]) ∧ Below w.heap.size w w' := by
  refine (unpackAny vk vb _ most _ w hk hb (by simpa using hl) (by simpa using hkl) (by omega) hm2).mono ?_
  rintro e w' ⟨v', r', rfl, ho, hr, hbl⟩
  obtain ⟨h1, h2⟩ := up_more st most hf
  rw [h1, h2]
  exact ⟨v', rfl, hbl⟩
theorem unpackLess (vk vb : Value) (st : List It) (most : Int) (w : World) (hf : Fit st most) (hne : flat st ≠ []) (hk : IntsAt w vk (st.map It.k)) (hb : BytesAt w vb (flat st).dropLast) (hl : (flat st).length ≤ 140737488351232) (hkl : st.length ≤ 1099511627776) (hm1 : 0 ≤ most) (hm2 : most ≤ 9223372036854775807) :
    Calls Try.prog 6 #[vk, .int .i64 most, vb] w fun e w' => ∃ v' p, e = .returned (.tuple #[v', .agg #[.int .i64 10, .int .i64 ((p : Nat) : Int)]]) ∧ p < (flat st).length ∧ Below w.heap.size w w' := by
  refine (unpackAny vk vb _ most _ w hk hb (by simp; omega) (by simpa using hkl) (by omega) hm2).mono ?_
  rintro e w' ⟨v', r', rfl, ho, hr, hbl⟩
  obtain ⟨h1, h2⟩ := up_less st most hf hne
  rw [h1]
  exact ⟨v', _, rfl, h2, hbl⟩

/-- What came in: an error and no items, or items that pack to the bytes. -/
structure Back (ts : List It) (l : List Nat) (n : Nat) : Prop where
  f : ts.all It.fits = true
  e : flat ts = l
  b : bulk ts ≤ l.length + 10 * n
  n : ∀ x ∈ ts, x.n < 18446744073709551616 ∧ x.s.size < 18446744073709551616
theorem unpackBack (vk vb : Value) (ks : List Int) (most : Int) (l : List Nat) (w : World) (hk : IntsAt w vk ks) (hb : BytesAt w vb l) (hl : l.length ≤ 140737488351232) (hkl : ks.length ≤ 1099511627776) (hm1 : -9223372036854775808 ≤ most) (hm2 : most ≤ 9223372036854775807) :
    Calls Try.prog 6 #[vk, .int .i64 most, vb] w fun e w' => ∃ v' r' ts x p, e = .returned (.tuple #[v', .agg #[.int .i64 x, .int .i64 p]]) ∧ OwnI w' v' ts r' ∧ ((x ≠ 0 ∧ ts = []) ∨ (x = 0 ∧ Back ts l ks.length)) ∧ Below w.heap.size w w' := by
  refine (unpackAny vk vb ks most l w hk hb hl hkl hm1 hm2).mono ?_
  rintro e w' ⟨v', r', rfl, ho, hr, hbl⟩
  refine ⟨v', r', _, _, _, rfl, ho, ?_, hbl⟩
  by_cases h : upE ks most l = 0
  · obtain ⟨h1, h2, h3, h4⟩ := up_back ks most l hb.byte (by omega) h
    exact .inr ⟨h, h1, h2, h3, h4⟩
  · refine .inl ⟨h, ?_⟩
    unfold upE at h
    unfold upItems
    by_cases hk : ks.all kindOk = true
    · rw [if_pos hk] at h ⊢
      rw [if_neg h]
    · rw [if_neg hk]

/-- The longest text. -/
def mx : List It → Nat
  | [] => 0
  | x :: r => max x.s.size (mx r)
theorem mx_snoc (st : List It) (x : It) : mx (st ++ [x]) = max (mx st) x.s.size := by
  induction st with
  | nil => simp [mx]
  | cons y r ih => simp [mx, ih, Nat.max_assoc]
theorem mx_ge (st : List It) : ∀ x ∈ st, x.s.size ≤ mx st := by
  induction st with
  | nil => simp
  | cons y r ih =>
    intro x hx
    simp only [List.mem_cons] at hx
    simp only [mx]
    rcases hx with rfl | hx
    · omega
    · have := ih x hx; omega
theorem mx_le (st : List It) (n : Nat) (h : ∀ x ∈ st, x.s.size ≤ n) : mx st ≤ n := by
  induction st with
  | nil => simp [mx]
  | cons y r ih =>
    have h1 := h y (by simp)
    have h2 := ih (fun x hx => h x (by simp [hx]))
    simp only [mx]
    omega
end Go.Proofs.Ytjefbcphefckiac
