import Derived.Test.YtpeejgnkdoeijaaMcH
/-! manifest: which catalogues may be: both answers. -/
namespace Go.Proofs.Ytpeejgnkdoeijaa
open Go.RowKit Plain
set_option linter.unusedVariables false
set_option linter.unusedSimpArgs false

/-- A catalogue. -/
structure Ct where
  nid : Int
  tops : List Te
abbrev Ct.agg (c : Ct) (v : Value) : Value := .agg #[.int .i64 c.nid, v]
def ansC (c : Ct) : Int := if (inW c.nid 1 1073741824 && okTops c.tops c.nid) = true then 0 else 71
theorem inW_iff2 {n a e : Int} : inW n a e = true ↔ a ≤ n ∧ n ≤ e := by unfold inW; simp
set_option maxHeartbeats 4000000 in
theorem ccheckOf (c : Ct) (v : Value) (w : World) (h : TesIn w v c.tops) : Calls Try.prog 10 #[c.agg v] w fun e w' => e = .returned (.int .i64 (ansC c)) ∧ Below w.heap.size w w' := by
  obtain ⟨nid, l⟩ := c
  obtain ⟨w0, hw0⟩ : ∃ w0, w.alloc (.cells #[.int .i64 nid, v] 28) = w0 := ⟨_, rfl⟩
  have HB0 : Hid (Below w.heap.size w w0) := by rw [← hw0]; exact (Below.refl _ _).alloc (Nat.le_refl _) _
  have m0 : w0.cell? ⟨w.heap.size, 0, none⟩ = some (.int .i64 nid) := by rw [← hw0]; exact World.cell?_alloc_at _ _ _ _ rfl
  have m1 : w0.cell? ⟨w.heap.size, 1, none⟩ = some v := by rw [← hw0]; exact World.cell?_alloc_at _ _ _ _ rfl
  have HTI : Hid (TesIn w0 v l) := h.later HB0.out
  have HA : Hid (ansC ⟨nid, l⟩ = if (inW nid 1 1073741824 && okTops l nid) = true then 0 else 71) := rfl
  generalize ansC ⟨nid, l⟩ = A at HA ⊢
  obtain ⟨a, n, cap, rfl⟩ : ∃ a n c, v = .slice a n c := by obtain ⟨a, c, e, _⟩ := h.1; exact ⟨a, _, c, e⟩
  simp only at h
  clear h
  unfold Ct.agg
  simp only
  cases h1 : inW nid 1 1073741824 with
  | false =>
    have HA1 : Hid (A = 71) := by rw [Hid, HA.out, h1]; rfl
    go_enter Try.func10, Try.ntmps10
    go_wp2_with fail
    refine (wintOf nid 1 1073741824 _).mono ?_
    rintro e w1 ⟨rfl, rfl⟩
    rw [h1]
    go_wp2
    go_ret
    exact ⟨by rw [HA1.out]; rfl, HB0.out⟩
  | true =>
    have HAR : Hid (Calls Try.prog 31 #[.slice a n cap, .int .i64 nid] w0 fun e w' => e = .returned (.bool (okTops l nid)) ∧ Below w0.heap.size w0 w') := areTopicsOf _ l nid w0 HTI.out (inW_iff2.mp h1)
    have HA1 : Hid (A = if okTops l nid = true then 0 else 71) := by rw [Hid, HA.out, h1]; rfl
    generalize okTops l nid = T at HAR HA1
    cases T with
    | false =>
      go_enter Try.func10, Try.ntmps10
      go_wp2_with fail
      refine (wintOf nid 1 1073741824 _).mono ?_
      rintro e w1 ⟨rfl, rfl⟩
      rw [h1]
      go_wp2_with fail
      refine HAR.out.mono ?_
      rintro e w2 ⟨rfl, hb⟩
      have HB2 : Hid (Below w.heap.size w w2) := below_step HB0.out hb
      clear hb
      go_wp2
      go_ret
      exact ⟨by rw [HA1.out]; rfl, HB2.out⟩
    | true =>
      go_enter Try.func10, Try.ntmps10
      go_wp2_with fail
      refine (wintOf nid 1 1073741824 _).mono ?_
      rintro e w1 ⟨rfl, rfl⟩
      rw [h1]
      go_wp2_with fail
      refine HAR.out.mono ?_
      rintro e w2 ⟨rfl, hb⟩
      have HB2 : Hid (Below w.heap.size w w2) := below_step HB0.out hb
      clear hb
      go_wp2
      go_ret
      exact ⟨by rw [HA1.out]; rfl, HB2.out⟩
/-- The order of two names, as a plain test tells it. -/
theorem nm_le (a b : ByteArray) : (Op.bytesLess b.toList a.toList || b.toList == a.toList) = !nmLt a b := by
  unfold nmLt
  rw [ByteArray.toList_eq, ByteArray.toList_eq, cmpL_less, cmpL_eq, cmpL_neg]
  rw [Bool.eq_iff_iff]
  simp only [Bool.or_eq_true, decide_eq_true_eq, Bool.not_eq_true', decide_eq_false_iff_not]
  omega
end Go.Proofs.Ytpeejgnkdoeijaa
