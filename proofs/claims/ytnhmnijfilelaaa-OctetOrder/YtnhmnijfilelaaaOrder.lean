import Derived.Test.YtnhmnijfilelaaaRows
import Derived.Test.YtnhmnijfilelaaaWalkD
import Derived.Below
import Derived.WalkKit
import Derived.ProofKit
import Derived.OpenShut
import Derived.ShutString
namespace Go.Proofs.Ytnhmnijfilelaaa.octetOrder
open Go.ChangeShapes Go.WideShapes Plain Go.ChangeAt Go.RowKit
open Go.ChangeMaps (open_string shut_string)
set_option linter.unusedVariables false

theorem own : ownKnob Try.prog.godebug = none := by kernel_rfl

set_option maxHeartbeats 4000000 in
theorem walk (a0 : ByteArray) (a1 : ByteArray) (a2 : ByteArray) (a3 : ByteArray) (w0 : a0.size ≤ maxLen) (w1 : a1.size ≤ maxLen) (w2 : a2.size ≤ maxLen) (w3 : a3.size ≤ maxLen) (w : World) :
    Calls Try.prog 4 #[.string a0, .string a1, .string a2, .string a3] w fun e w' => e = .returned (.bool true) ∧ Below w.heap.size w w' := by
  have hp3 := w3
  unfold maxLen at hp3
  obtain ⟨x, hx⟩ : ∃ x, cmpL a0.data.toList a1.data.toList = x := ⟨_, rfl⟩
  obtain ⟨y, hy⟩ : ∃ y, cmpL a1.data.toList a2.data.toList = y := ⟨_, rfl⟩
  obtain ⟨z, hz⟩ : ∃ z, cmpL a0.data.toList a2.data.toList = z := ⟨_, rfl⟩
  obtain ⟨s, hs⟩ : ∃ s, cmpL a0.data.toList a3.data.toList = s := ⟨_, rfl⟩
  have hx' : cmpL a1.data.toList a0.data.toList = -x := by rw [cmpL_neg, hx]
  have rx := cmpL_range a0.data.toList a1.data.toList
  have ry := cmpL_range a1.data.toList a2.data.toList
  have rz := cmpL_range a0.data.toList a2.data.toList
  have rs := cmpL_range a0.data.toList a3.data.toList
  have tr := cmpL_trans a0.data.toList a1.data.toList a2.data.toList
  have hE : (a0.toList == a1.toList) = decide (x = 0) := by rw [ByteArray.toList_eq, ByteArray.toList_eq, cmpL_eq, hx]
  have hL : Op.bytesLess a0.toList a1.toList = decide (x < 0) := by rw [ByteArray.toList_eq, ByteArray.toList_eq, cmpL_less, hx]
  rw [hx] at rx tr
  rw [hy] at ry tr
  rw [hz] at rz tr
  rw [hs] at rs
  -- the part ahead of After
  have hxy : (x = 1) ∨ (x = -1 ∧ 0 < y) ∨ (x = 0 ∧ 0 < y) ∨ (x = -1 ∧ y ≤ 0 ∧ z ≤ 0) ∨ (x = 0 ∧ y ≤ 0 ∧ z ≤ 0) := by
    by_cases h : y ≤ 0
    · rcases rx with h1 | h1 | h1
      · exact .inr (.inr (.inr (.inl ⟨h1, h, tr (by omega) h⟩)))
      · exact .inr (.inr (.inr (.inr ⟨h1, h, tr (by omega) h⟩)))
      · exact .inl h1
    · omega
  clear rx tr
  cases hB : aftB a3 with
  | false =>
    have hS : aftS a3 = ⟨#[]⟩ := by
      unfold aftS; unfold aftB at hB
      cases e : aft a3.data.toList with
      | none => rfl
      | some q => rw [e] at hB; simp at hB
    have hall : ∀ (k : Nat) (h : k < a3.size), ((a3[k].toNat : Int) != 255) = false := by
      intro k h
      have hn : aft a3.data.toList = none := by unfold aftB at hB; simpa using hB
      have := aft_none _ hn a3[k] (mem_at a3 k h)
      rw [this]; rfl
    have HS : Hid (aftS a3 = ⟨#[]⟩) := hS
    have HB : Hid (aftB a3 = false) := hB
    have HALL : Hid (∀ (k : Nat) (h : k < a3.size), ((a3[k].toNat : Int) != 255) = false) := hall
    have hsb : 0 ≤ s ∨ (s < 0 ∧ begB a0 a3 = false) := by
      by_cases h : 0 ≤ s
      · exact .inl h
      · refine .inr ⟨by omega, ?_⟩
        unfold begB
        rw [decide_eq_false_iff_not]
        intro h'
        have := pre_cmp _ _ h'
        rw [hs] at this
        omega
    clear hB hS hall ry rz rs
    have hw0 := Below.refl w.heap.size w
    rcases hxy with h | ⟨h, h2⟩ | ⟨h, h2⟩ | ⟨h, h2, h3⟩ | ⟨h, h2, h3⟩
    all_goals
      subst h
      first | replace hE := hE.trans (show _ = true by decide) | replace hE := hE.trans (show _ = false by decide)
      first | replace hL := hL.trans (show _ = true by decide) | replace hL := hL.trans (show _ = false by decide)
      go_enter Try.func4, Try.ntmps4
      go_wp2_with (first
        | (go_at_call 9; refine (cmpU _ _ w _ ?_ ?_ ?_).mono ?_; assumption; assumption; assumption; rintro e u ⟨rfl, hb⟩)
        | (go_at_call 10; refine (afterAt a3 _ _ HS.out HB.out w w3 _ ?_).mono ?_; assumption; rintro e u ⟨rfl, hb⟩)
        | (go_at_call 11; refine (begins a0 a3 _ w0 w3).mono ?_; rintro e u ⟨rfl, rfl⟩))
      go_loop [13] (fun i => ∃ k : Nat, k ≤ a3.size ∧ i = .int .i64 k) (fun i => a3.size - (intOf i).toNat)
      case atStart => exact ⟨0, Nat.zero_le _, rfl⟩
      case round =>
        obtain ⟨k, hk, rfl⟩ := hrel
        by_cases hlt : k < a3.size
        · have hne := HALL.out k hlt
          go_wp2
          go_round
          case rel => exact ⟨k + 1, by omega, by go_num⟩
          case measure => simp [intOf]; omega
        · rcases hsb with h5 | ⟨h5, h6⟩
          all_goals
            go_wp2_with (first
              | (go_at_call 9; refine (cmpU _ _ w _ ?_ ?_ ?_).mono ?_; assumption; assumption; assumption; rintro e u ⟨rfl, hb⟩)
              | (go_at_call 11; refine (begins a0 a3 _ w0 w3).mono ?_; rintro e u ⟨rfl, rfl⟩))
            go_ret
            exact ⟨rfl, by assumption⟩
  | true =>
    obtain ⟨ql, hql⟩ : ∃ q, aft a3.data.toList = some q := by
      unfold aftB at hB
      exact Option.isSome_iff_exists.mp hB
    obtain ⟨q, hS⟩ : ∃ q, aftS a3 = q := ⟨_, rfl⟩
    have hqd : q.data.toList = ql := by rw [← hS]; unfold aftS; rw [hql]; simp
    have w4 : q.size ≤ maxLen := by
      have h1 := aft_len _ _ hql
      have h2 : q.size = ql.length := by rw [← hqd]; simp
      have h3 : a3.data.toList.length = a3.size := by simp
      omega
    have hps := pre_some _ a0.data.toList _ hql
    rw [← hqd] at hps
    obtain ⟨t, ht⟩ : ∃ t, cmpL a0.data.toList q.data.toList = t := ⟨_, rfl⟩
    rw [hs, ht] at hps
    have hsb : (s < 0 ∧ begB a0 a3 = false) ∨ (0 ≤ s ∧ t < 0 ∧ begB a0 a3 = true) ∨ (0 ≤ s ∧ decide (t < 0) = false ∧ begB a0 a3 = false) := by
      unfold begB
      simp only [decide_eq_false_iff_not, decide_eq_true_iff, ← hps]
      omega
    have HS : Hid (aftS a3 = q) := hS
    have HB : Hid (aftB a3 = true) := hB
    clear hB hS ry rz rs hps hqd hql
    have hw0 := Below.refl w.heap.size w
    rcases hxy with h | ⟨h, h2⟩ | ⟨h, h2⟩ | ⟨h, h2, h3⟩ | ⟨h, h2, h3⟩
    all_goals
      subst h
      first | replace hE := hE.trans (show _ = true by decide) | replace hE := hE.trans (show _ = false by decide)
      first | replace hL := hL.trans (show _ = true by decide) | replace hL := hL.trans (show _ = false by decide)
      rcases hsb with ⟨h5, h6⟩ | ⟨h5, h6, h7⟩ | ⟨h5, h6, h7⟩
      all_goals
        go_enter Try.func4, Try.ntmps4
        go_wp2_with (first
          | (go_at_call 9; refine (cmpU _ _ w _ ?_ ?_ ?_).mono ?_; assumption; assumption; assumption; rintro e u ⟨rfl, hb⟩)
          | (go_at_call 10; refine (afterAt a3 _ _ HS.out HB.out w w3 _ ?_).mono ?_; assumption; rintro e u ⟨rfl, hb⟩)
          | (go_at_call 11; refine (begins a0 a3 _ w0 w3).mono ?_; rintro e u ⟨rfl, rfl⟩))
        go_ret
        exact ⟨rfl, by assumption⟩

set_option maxRecDepth 100000 in
theorem lifted (os : Os) (started : os.Started) (H : Type) (enc : TypeId × Value → H) :
    ReturnsInHanded {} Try.checked os 4 .any (Rows.octetOrderSpec.pre6 enc Try.prog Try.f4 Rows.octetOrderRow.domain false) (Rows.octetOrderSpec.post enc Try.prog Try.f4 false true false false) := by
  refine returnsInHanded_of_change (C := Try.checked) own started (by kernel_rfl) Try.func4
    (ChangeSpec.witness6 (enc := enc) (C := Try.checked) false ⟨#[], #[.string ByteArray.empty, .string ByteArray.empty, .string ByteArray.empty, .string ByteArray.empty], []⟩ 8 (by kernel_rfl) (by kernel_rfl) (by kernel_rfl) (by kernel_rfl)) ?_
  intro W base args ds gs before hval0 hW hcnd _
  have hval : ∀ (j : Nat) t v, Try.f4.params[j]? = some t → args[j]? = some v → Value.okWide Try.prog W .any base t v := hval0
  have hW' := hW
  obtain ⟨p, q, hA0, hV, rfl, hfz, hnd⟩ := hW
  have hA : DataW.TrodAll enc Try.prog W 0 (fun _ => true) true Try.f4.params.toList args.toList ds p := hA0
  rw [Try.params4] at hA hval
  obtain ⟨v0, vs0, d0, ds0, p0, q0, hargs, rfl, rfl, h0, r0⟩ := trodAll_cons hA
  obtain ⟨v1, vs1, d1, ds1, p1, q1, rfl, rfl, rfl, h1, r1⟩ := trodAll_cons r0
  obtain ⟨v2, vs2, d2, ds2, p2, q2, rfl, rfl, rfl, h2, r2⟩ := trodAll_cons r1
  obtain ⟨v3, vs3, d3, ds3, p3, q3, rfl, rfl, rfl, h3, r3⟩ := trodAll_cons r2
  obtain ⟨rfl, rfl, rfl⟩ := trodAll_nil r3
  obtain rfl : args = #[v0, v1, v2, v3] := by cases args; simp_all
  obtain ⟨rfl, rfl⟩ := trodVars_none hV
  obtain ⟨a0, rfl, rfl, rfl, w0⟩ := open_string Try.underlying9 (hval 0 9 v0 rfl rfl) h0
  obtain ⟨a1, rfl, rfl, rfl, w1⟩ := open_string Try.underlying9 (hval 1 9 v1 rfl rfl) h1
  obtain ⟨a2, rfl, rfl, rfl, w2⟩ := open_string Try.underlying9 (hval 2 9 v2 rfl rfl) h2
  obtain ⟨a3, rfl, rfl, rfl, w3⟩ := open_string Try.underlying9 (hval 3 9 v3 rfl rfl) h3
  clear hA0 hval0
  simp only [List.append_nil] at hW'
  refine (walk a0 a1 a2 a3 w0 w1 w2 w3 W).mono fun e W' ⟨he, hg⟩ => ?_
  subst he
  exact ⟨_, rfl, _, _, _, [], [], [], hW', (trodAll_cons_mk (shut_bool Try.underlying4 _) trodAll_mk0), (trodAll_cons_mk (shut_string Try.underlying9 w0) (trodAll_cons_mk (shut_string Try.underlying9 w1) (trodAll_cons_mk (shut_string Try.underlying9 w2) (trodAll_cons_mk (shut_string Try.underlying9 w3) trodAll_mk0)))), rfl, hg.frame _, fun h => by cases h⟩

theorem over : Rows.octetOrderRow.holds Try.pinned (OpenSpec.ofChange Rows.octetOrderSpec) :=
  OpenClaim.holds_of_wide 4 Try.f4 rfl rfl rfl rfl rfl rfl rfl ⟨rfl, rfl, rfl, rfl, rfl⟩ rfl rfl rfl rfl rfl (by kernel_rfl) Try.func4 (by kernel_rfl)
    (of_decide_eq_true (by kernel_rfl)) (by unfold Func.isWrapper; first | (rw [if_pos (by decide +kernel)]; kernel_rfl) | (rw [if_neg (by decide +kernel)]; exact ⟨rfl, rfl⟩))
    (fun os started H enc _ => lifted os started H enc)

theorem proved : Rows.OctetOrderSaid :=
  over
end Go.Proofs.Ytnhmnijfilelaaa.octetOrder
namespace Go.Proofs.Ytnhmnijfilelaaa
theorem octetOrder_proved : Rows.OctetOrderSaid := octetOrder.proved
#print axioms octetOrder_proved
end Go.Proofs.Ytnhmnijfilelaaa
