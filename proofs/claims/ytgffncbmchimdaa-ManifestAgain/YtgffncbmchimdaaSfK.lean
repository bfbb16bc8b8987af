import Derived.Test.YtgffncbmchimdaaSfI
/-! Size, Read, New. -/
namespace Go.Proofs.Ytgffncbmchimdaa
open Go.RowKit Go.Maps Plain
set_option linter.unusedVariables false
set_option linter.unusedSimpArgs false

/-- What Size answers. -/
def szK (k : Dk) (s : ByteArray) : Nat × Int := if (fnd k.dead k.L s).2 = 0 then (sizeK k s, 0) else (0, (fnd k.dead k.L s).2)
set_option maxHeartbeats 2000000 in
set_option maxRecDepth 1000000 in
theorem sizeOf {S : Nat → Prop} {w w1 : World} {d n : Nat} {k : Dk} (h : St S w d k w1) (hk : k.Ok n) (s : ByteArray) (hs : s.size ≤ maxLen) : Calls Try.prog 48 #[.pointer (some ⟨d, 0, none⟩), .string s] w1 fun e w' => e = .returned (.tuple #[.int .i64 ((szK k s).1 : Int), .int .i64 (szK k s).2]) ∧ St S w d k w' := by
  have HS : Hid (St S w d k (w1.alloc (.cells #[.string s] 9))) := h.below ((Below.refl _ _).alloc (Nat.le_refl _) _)
  have HFD : Hid (Calls Try.prog 31 #[.pointer (some ⟨d, 0, none⟩), .string s] w1 fun e w' => e = .returned (.tuple #[(fnd k.dead k.L s).1, .int .i64 (fnd k.dead k.L s).2]) ∧ w' = w1.alloc (.cells #[.string s] 9)) := findSt h s hs
  obtain ⟨W1, hW1⟩ : ∃ W1, w1.alloc (.cells #[.string s] 9) = W1 := ⟨_, rfl⟩
  rw [hW1] at HFD HS
  clear hW1 h
  by_cases h0 : (fnd k.dead k.L s).2 = 0
  · obtain ⟨G, hl, hfe⟩ := fnd_ok h0
    rw [hfe] at HFD
    obtain ⟨fa, fc, g0, g1, g2, _⟩ := HS.out.fcell (hk.refs _ (look_mem hl))
    have HE : Hid (szK k s = ((k.file G).seen.length, 0)) := by unfold Hid szK sizeK; rw [if_pos h0, hl]; rfl
    generalize (k.file G).seen.length = N at g0 g1 HE
    clear hk h0 hl hfe
    go_enter Try.func48, Try.ntmps48
    go_wp2_with fail
    refine HFD.out.mono ?_
    rintro e w2 ⟨rfl, rfl⟩
    go_wp2
    go_ret2
    exact ⟨by rw [HE.out]; rfl, HS.out⟩
  · have HE : Hid (szK k s = (0, (fnd k.dead k.L s).2)) := by unfold Hid szK; rw [if_neg h0]
    rw [HE.out]
    have hp := fnd_bad h0
    rw [hp] at HFD
    obtain ⟨z, hz⟩ : ∃ z, (fnd k.dead k.L s).2 = z := ⟨_, rfl⟩
    rw [hz] at HFD h0 ⊢
    have hne : (z != 0) = true := by simpa using h0
    have hne2 : (z == 0) = false := beq_eq_false_iff_ne.mpr h0
    clear hz hp h0 hk HE
    go_enter Try.func48, Try.ntmps48
    go_wp2_with fail
    refine HFD.out.mono ?_
    rintro e w2 ⟨rfl, rfl⟩
    go_wp2
    go_ret2
    exact ⟨rfl, HS.out⟩

/-- A disk with nothing on it. -/
def Dk.fresh (q : Int) : Dk := ⟨[], [], [], 0, q, 0, false, 0, false, fun _ => ⟨[], [], []⟩, fun _ => False⟩
def freshD (q : Int) : Obj := .cells #[.map none, .map none, .slice none 0 0, .int .i64 0, .int .i64 q, .int .i64 0, .bool false, .int .i64 0, .bool false] 69
theorem freshAt (w : World) (q : Int) : DiskAt (w.alloc (freshD q)) w.heap.size (Dk.fresh q) (fun x => x = w.heap.size) := by
  refine ⟨none, none, .slice none 0 0, none, fun _ _ => False, ⟨?_, .inl ⟨rfl, rfl⟩, .inl ⟨rfl, rfl⟩, OwnV.nil _, fun G hG => hG.elim, by simp, by simp, by simp, fun G hG => hG.elim, fun G G' hG => hG.elim⟩, fun x hx => ?_, fun G x hG => hG.elim, fun x hx => ?_⟩
  · show (w.heap.push (freshD q))[w.heap.size]? = _
    simp [freshD, Dk.fresh]
  · rcases hx with rfl | hx | hx | hx
    · rfl
    all_goals simp at hx
  · subst hx; simp
theorem fresh_dok (q : Int) : (Dk.fresh q).Dok 0 :=
  ⟨⟨by simp [Dk.fresh], fun G hG => hG.elim, by simp [Dk.fresh], by simp [Dk.fresh]⟩, ⟨by simp [Dk.fresh], fun k => by simp [Dk.fresh, dst], by simp [Dk.fresh]⟩, rfl, by simp [Dk.fresh], by simp [Dk.fresh]⟩
theorem fresh_uok (q : Int) (h1 : 0 ≤ q) (h2 : q ≤ 1073741824) : (Dk.fresh q).Uok := ⟨by simp [Dk.fresh], ⟨h1, h2⟩, by simp [Dk.fresh]⟩

def qB (q : Int) : Bool := decide (0 ≤ q ∧ q ≤ 1073741824)
set_option maxRecDepth 1000000 in
theorem isQuotaOf (q : Int) (hq1 : -9223372036854775808 ≤ q) (hq2 : q ≤ 9223372036854775807) (w : World) : Calls Try.prog 44 #[.int .i64 q] w fun e w' => e = .returned (.bool (qB q)) ∧ w' = w := by
  by_cases h0 : 0 ≤ q
  · by_cases h1 : q ≤ 1073741824
    · have HE : Hid (qB q = true) := by simp [Hid, qB, h0, h1]
      rw [HE.out]
      go_enter Try.func44, Try.ntmps44
      go_wp2
      go_ret
      first | exact ⟨rfl, rfl⟩ | (refine ⟨?_, rfl⟩; simp; omega)
    · have HE : Hid (qB q = false) := by simp [Hid, qB, h0]; omega
      rw [HE.out]
      have h2 : 1073741824 < q := by omega
      clear h1
      go_enter Try.func44, Try.ntmps44
      go_wp2
      go_ret
      first | exact ⟨rfl, rfl⟩ | (refine ⟨?_, rfl⟩; simp; omega)
  · have HE : Hid (qB q = false) := by simp [Hid, qB]; omega
    rw [HE.out]
    have h2 : q < 0 := by omega
    clear h0
    go_enter Try.func44, Try.ntmps44
    go_wp2
    go_ret
    first | exact ⟨rfl, rfl⟩ | (refine ⟨?_, rfl⟩; simp; omega)

set_option maxRecDepth 1000000 in
theorem isImageNil (w : World) : Calls Try.prog 45 #[.slice none 0 0] w fun e w' => e = .returned (.bool true) ∧ w' = w := by
  go_enter Try.func45, Try.ntmps45
  go_wp2
  go_loopg [7] 0 (fun gk s7 wx => s7 = .int .i64 0 ∧ wx = w)
  case atStart => exact ⟨rfl, rfl⟩
  case round =>
    obtain ⟨rfl, rfl⟩ := hrel
    go_wp2
    go_ret
    exact ⟨rfl, rfl⟩

set_option maxHeartbeats 2000000 in
set_option maxRecDepth 1000000 in
theorem loadNil (q : Int) (hq1 : -9223372036854775808 ≤ q) (hq2 : q ≤ 9223372036854775807) (w : World) : Calls Try.prog 13 #[.slice none 0 0, .int .i64 q] w fun e w' => (qB q = false ∧ e = .returned (.tuple #[.pointer none, .int .i64 3]) ∧ w' = w) ∨ (qB q = true ∧ e = .returned (.tuple #[.pointer (some ⟨w.heap.size, 0, none⟩), .int .i64 0]) ∧ St (fun x => x = w.heap.size) (w.alloc (freshD q)) w.heap.size (Dk.fresh q) w') := by
  have HQ : Hid (Calls Try.prog 44 #[.int .i64 q] w fun e w' => e = .returned (.bool (qB q)) ∧ w' = w) := isQuotaOf q hq1 hq2 w
  have HIM : Hid (Calls Try.prog 45 #[.slice none 0 0] w fun e w' => e = .returned (.bool true) ∧ w' = w) := isImageNil w
  have HSE : Hid (Calls Try.prog 34 #[.pointer (some ⟨w.heap.size, 0, none⟩)] (w.alloc (freshD q)) fun e w' => e = .returned (.tuple #[]) ∧ St (fun x => x = w.heap.size) (w.alloc (freshD q)) w.heap.size (Dk.fresh q) w') := settleDOf _ _ (Dk.fresh q) _ (freshAt w q) (fresh_dok q).dir (fresh_dok q).eq
  cases hb : qB q with
  | false =>
    rw [hb] at HQ
    have HB : Hid (qB q = false) := hb
    clear hb HSE HIM
    go_enter Try.func13, Try.ntmps13
    go_wp2_with fail
    refine HQ.out.mono ?_
    rintro e w1 ⟨rfl, rfl⟩
    go_wp2
    go_ret2
    exact .inl ⟨by trivial, rfl, rfl⟩
  | true =>
    rw [hb] at HQ
    clear hb
    go_enter Try.func13, Try.ntmps13
    go_wp2_with fail
    refine HQ.out.mono ?_
    rintro e w1 ⟨rfl, rfl⟩
    go_wp2_with fail
    refine HIM.out.mono ?_
    rintro e w1 ⟨rfl, rfl⟩
    go_wp2_with fail
    go_loopg [23] 0 (fun gk s23 wx => s23 = .int .i64 0 ∧ wx = w1.alloc (freshD q))
    case atStart => exact ⟨rfl, rfl⟩
    case round =>
      obtain ⟨rfl, rfl⟩ := hrel
      go_wp2_with fail
      refine HSE.out.mono ?_
      rintro e w2 ⟨rfl, hs2⟩
      have HS2 : Hid (St (fun x => x = w1.heap.size) (w1.alloc (freshD q)) w1.heap.size (Dk.fresh q) w2) := hs2
      clear hs2
      go_wp2
      go_ret2
      exact .inr ⟨by trivial, rfl, HS2.out⟩
end Go.Proofs.Ytgffncbmchimdaa
