import Derived.Test.YtbeaefokpggmpabQva
/-! quota: a stable sort, plainly: merging. -/
namespace Go.Proofs.Ytbeaefokpggmpab
open Go.RowKit
set_option linter.unusedVariables false

theorem shL_perm (f : Nat → Nat) (a b : Nat) : ∀ d, a + d < b → PermOn a b f (shL f a (a + d))
  | 0, h => by rw [Nat.add_zero, shL_start]; exact PermOn.refl _ _ _
  | d + 1, h => by
    have := (shL_perm f a b d (by omega)).trans (PermOn.swap (i := a + d) (j := a + d + 1) (shL f a (a + d)) (by omega) (by omega) (by omega) (by omega))
    rw [shL_step f (show a ≤ a + d by omega)] at this
    exact this
theorem shR_perm (f : Nat → Nat) (a m b : Nat) (hmb : m < b) : ∀ d, d ≤ m → a ≤ m - d → PermOn a b f (shR f m (m - d))
  | 0, _, h => by rw [Nat.sub_zero, shR_start]; exact PermOn.refl _ _ _
  | d + 1, hd, h => by
    have := (shR_perm f a m b hmb d (by omega) (by omega)).trans (PermOn.swap (i := m - d) (j := m - (d + 1)) (shR f m (m - d)) (by omega) (by omega) (by omega) (by omega))
    have e : m - d = m - (d + 1) + 1 := by omega
    rw [e, shR_step f (show m - (d + 1) + 1 ≤ m by omega)] at this
    exact this
theorem merge_left {rem : Nat → Int} {f : Nat → Nat} {a m b i : Nat} (hm : m = a + 1) (h1 : m ≤ i) (h2 : i ≤ b) (hs : Srt rem m b f) (hl : ∀ h, m ≤ h → h < i → Ahd rem (f h) (f a)) (hr : ∀ h, i ≤ h → h < b → Ahd rem (f a) (f h)) : Srt rem a b (shL f a (i - 1)) := by
  have e1 : ∀ x, a ≤ x → x < i - 1 → shL f a (i - 1) x = f (x + 1) := fun x k1 k2 => by unfold shL; rw [if_pos ⟨k1, k2⟩]
  have e2 : shL f a (i - 1) (i - 1) = f a := by unfold shL; rw [if_neg (by omega), if_pos rfl]
  have e3 : ∀ x, i - 1 < x → shL f a (i - 1) x = f x := fun x k1 => by unfold shL; rw [if_neg (by omega), if_neg (by omega)]
  intro x y h3 h4 h5
  by_cases hx : x < i - 1
  · rw [e1 x h3 hx]
    by_cases hy : y < i - 1
    · rw [e1 y (by omega) hy]; exact hs _ _ (by omega) (by omega) (by omega)
    · by_cases hy2 : y = i - 1
      · rw [hy2, e2]; exact hl _ (by omega) (by omega)
      · rw [e3 y (by omega)]; exact hs _ _ (by omega) (by omega) (by omega)
  · by_cases hx2 : x = i - 1
    · rw [hx2, e2, e3 y (by omega)]; exact hr _ (by omega) (by omega)
    · rw [e3 x (by omega), e3 y (by omega)]; exact hs _ _ (by omega) (by omega) (by omega)
theorem merge_right {rem : Nat → Int} {f : Nat → Nat} {a m b i : Nat} (hb : b = m + 1) (h1 : a ≤ i) (h2 : i ≤ m) (hs : Srt rem a m f) (hl : ∀ h, a ≤ h → h < i → Ahd rem (f h) (f m)) (hr : ∀ h, i ≤ h → h < m → Ahd rem (f m) (f h)) : Srt rem a b (shR f m i) := by
  have e1 : ∀ x, i < x → x ≤ m → shR f m i x = f (x - 1) := fun x k1 k2 => by unfold shR; rw [if_pos ⟨k1, k2⟩]
  have e2 : shR f m i i = f m := by unfold shR; rw [if_neg (by omega), if_pos rfl]
  have e3 : ∀ x, x < i → shR f m i x = f x := fun x k1 => by unfold shR; rw [if_neg (by omega), if_neg (by omega)]
  intro x y h3 h4 h5
  by_cases hx : x < i
  · rw [e3 x hx]
    by_cases hy : y < i
    · rw [e3 y hy]; exact hs _ _ (by omega) (by omega) (by omega)
    · by_cases hy2 : y = i
      · rw [hy2, e2]; exact hl _ (by omega) (by omega)
      · rw [e1 y (by omega) (by omega)]; exact hs _ _ (by omega) (by omega) (by omega)
  · by_cases hx2 : x = i
    · rw [hx2, e2, e1 y (by omega) (by omega)]; exact hr _ (by omega) (by omega)
    · rw [e1 x (by omega) (by omega), e1 y (by omega) (by omega)]; exact hs _ _ (by omega) (by omega) (by omega)

/-- The search for the middle. -/
structure Sch (rem : Nat → Int) (f : Nat → Nat) (lo hi p s r : Nat) : Prop where
  ls : lo ≤ s
  sr : s ≤ r
  rh : r ≤ hi
  low : ∀ c, lo ≤ c → c < s → Ahd rem (f c) (f (p - c))
  high : ∀ c, r ≤ c → c < hi → Ahd rem (f (p - c)) (f c)
theorem Sch.start {rem : Nat → Int} {f : Nat → Nat} {lo hi p : Nat} (h : lo ≤ hi) : Sch rem f lo hi p lo hi :=
  ⟨Nat.le_refl _, h, Nat.le_refl _, fun c _ _ => by omega, fun c _ _ => by omega⟩
theorem Sch.up {rem : Nat → Int} {f : Nat → Nat} {a m b lo hi p s r c : Nat} (h : Sch rem f lo hi p s r) (hs1 : Srt rem a m f) (hs2 : Srt rem m b f) (hsep : Sep a m b f) (hlo : a ≤ lo) (hhi : hi ≤ m) (hp1 : ∀ c, lo ≤ c → c < hi → m ≤ p - c ∧ p - c < b ∧ c ≤ p)
    (h1 : s ≤ c) (h2 : c < r) (hn : ¬ rem (f c) < rem (f (p - c))) : Sch rem f lo hi p (c + 1) r := by
  have k1 := h.ls
  have k2 := h.rh
  have q := hp1 c (by omega) (by omega)
  have hc : Ahd rem (f c) (f (p - c)) := Ahd.of_not hn (hsep _ _ (by omega) (by omega) q.1 q.2.1)
  refine ⟨by omega, by omega, h.rh, fun x x1 x2 => ?_, h.high⟩
  by_cases hx : x < s
  · exact h.low x x1 hx
  · by_cases hxc : x = c
    · rw [hxc]; exact hc
    · have qx := hp1 x (by omega) (by omega)
      exact ((hs1 x c (by omega) (by omega) (by omega)).trans hc).trans (hs2 _ _ q.1 (by omega) qx.2.1)
theorem Sch.down {rem : Nat → Int} {f : Nat → Nat} {a m b lo hi p s r c : Nat} (h : Sch rem f lo hi p s r) (hs1 : Srt rem a m f) (hs2 : Srt rem m b f) (hlo : a ≤ lo) (hhi : hi ≤ m) (hp1 : ∀ c, lo ≤ c → c < hi → m ≤ p - c ∧ p - c < b ∧ c ≤ p)
    (h1 : s ≤ c) (h2 : c < r) (hn : rem (f c) < rem (f (p - c))) : Sch rem f lo hi p s c := by
  have k1 := h.ls
  have k2 := h.rh
  have q := hp1 c (by omega) (by omega)
  have hc : Ahd rem (f (p - c)) (f c) := Ahd.of_lt hn
  refine ⟨h.ls, h1, by omega, h.low, fun x x1 x2 => ?_⟩
  by_cases hx : r ≤ x
  · exact h.high x hx x2
  · by_cases hxc : x = c
    · rw [hxc]; exact hc
    · have qx := hp1 x (by omega) (by omega)
      exact ((hs2 _ _ qx.1 (by omega) q.2.1).trans hc).trans (hs1 c x (by omega) (by omega) (by omega))
/-- What the cut gives: all of the left half goes ahead of all of the right one. -/
structure Halves (rem : Nat → Int) (g : Nat → Nat) (a s mid e b : Nat) : Prop where
  s1 : Srt rem a s g
  s2 : Srt rem s mid g
  p1 : Sep a s mid g
  s3 : Srt rem mid e g
  s4 : Srt rem e b g
  p2 : Sep mid e b g
  cross : ∀ x y, a ≤ x → x < mid → mid ≤ y → y < b → Ahd rem (g x) (g y)
theorem halves_of {rem : Nat → Int} {f : Nat → Nat} {a s m e b mid : Nat} (h1 : a ≤ s) (h2 : s ≤ m) (h3 : m ≤ e) (h4 : e ≤ b) (hmid : mid = s + (e - m)) (hs1 : Srt rem a m f) (hs2 : Srt rem m b f) (hsep : Sep a m b f)
    (hx : ∀ x y, a ≤ x → x < s → e ≤ y → y < b → Ahd rem (f x) (f y)) (hy : ∀ x y, m ≤ x → x < e → s ≤ y → y < m → Ahd rem (f x) (f y)) : Halves rem (rotF f s m e) a s mid e b := by
  have e0 : ∀ x, x < s → rotF f s m e x = f x := fun x hx => rotF_out (.inl hx) h2 h3
  have e1 : ∀ x, s ≤ x → x < mid → rotF f s m e x = f (x + (m - s)) := fun x k1 k2 => rotF_one ⟨k1, by omega⟩
  have e2 : ∀ x, mid ≤ x → x < e → rotF f s m e x = f (x - (e - m)) := fun x k1 k2 => rotF_two ⟨by omega, k2⟩
  have e3 : ∀ x, e ≤ x → rotF f s m e x = f x := fun x hx => rotF_out (.inr hx) h2 h3
  refine ⟨fun i j k1 k2 k3 => ?_, fun i j k1 k2 k3 => ?_, fun i j k1 k2 k3 k4 => ?_, fun i j k1 k2 k3 => ?_, fun i j k1 k2 k3 => ?_, fun i j k1 k2 k3 k4 => ?_, fun i j k1 k2 k3 k4 => ?_⟩
  · rw [e0 i (by omega), e0 j k3]; exact hs1 _ _ k1 k2 (by omega)
  · rw [e1 i k1 (by omega), e1 j (by omega) k3]; exact hs2 _ _ (by omega) (by omega) (by omega)
  · rw [e0 i k2, e1 j k3 k4]; exact hsep _ _ k1 (by omega) (by omega) (by omega)
  · rw [e2 i k1 (by omega), e2 j (by omega) k3]; exact hs1 _ _ (by omega) (by omega) (by omega)
  · rw [e3 i k1, e3 j (by omega)]; exact hs2 _ _ (by omega) k2 k3
  · rw [e2 i k1 k2, e3 j k3]; exact hsep _ _ (by omega) (by omega) (by omega) (by omega)
  · by_cases hi : i < s
    · rw [e0 i hi]
      by_cases hj : j < e
      · rw [e2 j k3 hj]; exact hs1 _ _ k1 (by omega) (by omega)
      · rw [e3 j (by omega)]; exact hx _ _ k1 hi (by omega) k4
    · rw [e1 i (by omega) k2]
      by_cases hj : j < e
      · rw [e2 j k3 hj]; exact hy _ _ (by omega) (by omega) (by omega) (by omega)
      · rw [e3 j (by omega)]; exact hs2 _ _ (by omega) (by omega) k4
/-- From the search to the halves. -/
theorem Sch.halves {rem : Nat → Int} {f : Nat → Nat} {a m b mid lo hi s : Nat} (ham : a < m) (hmb : m < b) (hmid : mid = (a + b) / 2) (hcase : (mid < m ∧ lo = mid + m - b ∧ hi = mid) ∨ (m ≤ mid ∧ lo = a ∧ hi = m))
    (h : Sch rem f lo hi (mid + m - 1) s s) (hs1 : Srt rem a m f) (hs2 : Srt rem m b f) (hsep : Sep a m b f) : Halves rem (rotF f s m (mid + m - s)) a s mid (mid + m - s) b ∧ a ≤ s ∧ s ≤ m ∧ m ≤ mid + m - s ∧ mid + m - s ≤ b ∧ s ≤ mid := by
  have k1 := h.ls
  have k2 := h.rh
  have b1 : a ≤ s ∧ s ≤ m ∧ m ≤ mid + m - s ∧ mid + m - s ≤ b ∧ s ≤ mid := by omega
  refine ⟨halves_of b1.1 b1.2.1 b1.2.2.1 b1.2.2.2.1 (by omega) hs1 hs2 hsep (fun x y x1 x2 y1 y2 => ?_) (fun x y x1 x2 y1 y2 => ?_), b1⟩
  · have hlow := h.low (s - 1) (by omega) (by omega)
    rw [show mid + m - 1 - (s - 1) = mid + m - s by omega] at hlow
    have q1 : Ahd rem (f x) (f (mid + m - s)) := by
      by_cases hx : x = s - 1
      · rw [hx]; exact hlow
      · exact (hs1 x (s - 1) x1 (by omega) (by omega)).trans hlow
    by_cases hy : y = mid + m - s
    · rw [hy]; exact q1
    · exact q1.trans (hs2 _ _ (by omega) (by omega) y2)
  · have hhigh := h.high s (Nat.le_refl _) (by omega)
    rw [show mid + m - 1 - s = mid + m - s - 1 by omega] at hhigh
    have q1 : Ahd rem (f x) (f s) := by
      by_cases hx : x = mid + m - s - 1
      · rw [hx]; exact hhigh
      · exact (hs2 x (mid + m - s - 1) x1 (by omega) (by omega)).trans hhigh
    by_cases hy : y = s
    · rw [hy]; exact q1
    · exact q1.trans (hs1 _ _ (by omega) (by omega) y2)
theorem halves_end {rem : Nat → Int} {g g1 g2 : Nat → Nat} {a s mid e b : Nat} (h : Halves rem g a s mid e b) (ham : a ≤ mid) (hmb : mid ≤ b) (p1 : PermOn a mid g g1) (q1 : Srt rem a mid g1) (p2 : PermOn mid b g1 g2) (q2 : Srt rem mid b g2) : PermOn a b g g2 ∧ Srt rem a b g2 := by
  refine ⟨(p1.mono (Nat.le_refl _) hmb).trans (p2.mono ham (Nat.le_refl _)), fun x y h1 h2 h3 => ?_⟩
  by_cases hy : y < mid
  · rw [p2.out (by omega), p2.out (by omega)]; exact q1 x y h1 h2 hy
  · by_cases hx : x < mid
    · rw [p2.out (k := x) (by omega)]
      refine p1.all (Q := fun z => Ahd rem z (g2 y)) (fun k k1 k2 => ?_) h1 hx
      refine p2.all (Q := fun z => Ahd rem (g k) z) (fun j j1 j2 => ?_) (by omega) h3
      rw [p1.out (by omega)]
      exact h.cross k j k1 k2 j1 j2
    · exact q2 x y (by omega) h2 h3
/-- Where one of the two parts is empty there is nothing to merge. -/
theorem Srt.joins {rem : Nat → Int} {a s mid : Nat} {g : Nat → Nat} (h1 : Srt rem a s g) (h2 : Srt rem s mid g) (h : s ≤ a ∨ mid ≤ s) : Srt rem a mid g := by
  rcases h with h | h
  · exact h2.le h (Nat.le_refl _)
  · exact h1.le (Nat.le_refl _) h
end Go.Proofs.Ytbeaefokpggmpab
