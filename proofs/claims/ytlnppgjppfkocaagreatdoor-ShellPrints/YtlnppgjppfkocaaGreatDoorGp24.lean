import Derived.Test.YtlnppgjppfkocaaGreatDoorGp23
import Derived.Test.YtlnppgjppfkocaaGreatDoorGp07
/-! The program's CheckRequest. -/
namespace Go.Proofs.YtlnppgjppfkocaaGreatDoor.Xs
open Go.RowKit Plain
set_option linter.unusedVariables false
set_option linter.unusedSimpArgs false

theorem fits_ok (r : Rq) (h1 : 1 ≤ r.op) (h2 : r.op ≤ 15) : fitsB (useI r.op) r = (okR1 r && okR2 r && okR3 r) := by
  obtain ⟨a1, a2, a3, a4, a5, a6, a7⟩ := ask_uses r.op h1 h2
  unfold fitsB txOk nuOk tOk nOk okR1 okR2 okR3
  simp only [if_true, if_false, Nat.one_ne_zero, Nat.succ_ne_zero, a1, a2, a3, a4, a5, a6, a7, h1, h2, and_self, decide_true, Bool.true_and, reduceIte, Nat.reduceEqDiff]
  ac_rfl
/-- What the program's CheckRequest answers. -/
def WckOk (Tb : World → Prop) : Prop := ∀ (r : Rq) (w : World), Tb w → r.topic.length ≤ 1125899906842624 → r.key.length ≤ 1125899906842624 → r.value.length ≤ 1125899906842624 →
  Calls Tryz.prog 43 #[rqV r] w fun e w' => e = .returned (.int .i64 (if (okR1 r && okR2 r && okR3 r) = true then 0 else 161)) ∧ Below w.heap.size w w'
set_option maxHeartbeats 8000000 in
set_option maxRecDepth 100000 in
theorem wcheckOf : WckOk OpsAt := by
  intro r w ho h3 h4 h5
  have hx := rqBox w r 24
  obtain ⟨W1, hW1⟩ : ∃ W1, w.alloc (.cells #[.int .u32 r.id, .int .i64 r.op, .string (ba r.topic), .string (ba r.key), .string (ba r.value), .int .i64 r.offset, .int .i64 r.number, .int .i64 r.pid, .int .i64 r.seq] 24) = W1 := ⟨_, rfl⟩
  rw [hW1] at hx
  have HB1 : Hid (Below w.heap.size w W1) := hx.1
  have HR : Hid (∀ v, Below W1.heap.size W1 v → RqAt v w.heap.size 0 r) := fun v hv => hx.2.later hv
  obtain ⟨z0, z1, z2, z3, z4, z5, z6, z7, z8⟩ := hx.2
  have HOP := mkH (wopOf r.op W1 (ho.later HB1.out))
  have HF : Hid (∀ v, Below W1.heap.size W1 v → Calls Tryz.prog 77 #[opV r.op, .pointer (some ⟨w.heap.size, 0, none⟩)] v fun e w' => e = .returned (.bool (fitsB (useI r.op) r)) ∧ Below v.heap.size v w') := fun v hv => wfitsOf _ _ r _ v (HR.out v hv) h3 h4 h5
  obtain ⟨A, HA⟩ : ∃ A : Int, Hid (A = if (okR1 r && okR2 r && okR3 r) = true then 0 else 161) := ⟨_, rfl⟩
  rw [← HA.out]
  clear hx h3 h4 h5 ho
  by_cases hop : 1 ≤ r.op ∧ r.op ≤ 15
  · have e1 : opV r.op = .agg #[.bool true, .int .i64 (useI r.op)] := by unfold opV; rw [decide_eq_true hop]
    have HFO : Hid (fitsB (useI r.op) r = (okR1 r && okR2 r && okR3 r)) := fits_ok r hop.1 hop.2
    rw [e1] at HOP HF
    rw [HFO.out] at HF
    generalize (okR1 r && okR2 r && okR3 r) = K at *
    clear HFO hop e1
    generalize useI r.op = u at *
    go_enter Tryz.func43, Tryz.ntmps43
    go_wp2_with fail
    refine HOP.out.mono ?_
    rintro e w2 ⟨rfl, hb2⟩
    have HB2 : Hid (Below W1.heap.size W1 w2) := hb2
    clear hb2 HOP
    go_wp2_with fail
    refine (HF.out _ (HB2.out.alloc HB2.out.size _)).mono ?_
    rintro e w3 ⟨rfl, hb3⟩
    have HB3 : Hid (Below w.heap.size w w3) := below_on HB1.out (below_on (HB2.out.alloc HB2.out.size _) hb3)
    clear hb3 HF HR z0 z1 z2 z3 z4 z5 z6 z7 z8 hW1 HB2 HB1
    cases K
    · go_wp2
      go_ret
      exact ⟨by rw [HA.out]; rfl, HB3.out⟩
    · go_wp2
      go_ret
      exact ⟨by rw [HA.out]; rfl, HB3.out⟩
  · have e1 : opV r.op = .agg #[.bool false, .int .i64 0] := by
      unfold opV useI
      rw [show decide (1 ≤ r.op ∧ r.op ≤ 15) = false from by simpa using hop, if_neg hop]
    have HK : Hid ((okR1 r && okR2 r && okR3 r) = false) := by
      unfold Hid okR1
      rw [show decide (1 ≤ r.op ∧ r.op ≤ 15) = false from by simpa using hop]
      rfl
    rw [e1] at HOP
    clear HF HR e1 hop
    generalize (okR1 r && okR2 r && okR3 r) = K at *
    go_enter Tryz.func43, Tryz.ntmps43
    go_wp2_with fail
    refine HOP.out.mono ?_
    rintro e w2 ⟨rfl, hb2⟩
    have HB2 : Hid (Below W1.heap.size W1 w2) := hb2
    clear hb2 HOP
    go_wp2
    go_ret
    exact ⟨by rw [HA.out, HK.out]; rfl, below_on HB1.out (HB2.out.alloc HB2.out.size _)⟩
end Go.Proofs.YtlnppgjppfkocaaGreatDoor.Xs
