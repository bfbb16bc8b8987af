import Derived.Test.YthcnhjmkcekdaaaGreatQs05
namespace Go.Proofs.YthcnhjmkcekdaaaGreat
open Go.RowKit Go.Maps Plain
set_option linter.unusedVariables false
set_option linter.unusedSimpArgs false
theorem lenO (w : World) (m : Option Nat) (L : Dir) (h : MapO w m L) (ty : TypeId) : (Builtin.len_ #[65] ty #[.map m]).run Tryz.prog w = .ok (.int .i64 (L.length : Int)) w := by
  rcases h with ⟨rfl, rfl⟩ | ⟨b, rfl, h⟩
  · exact Maps.len_nil Tryz.underlying65 ty
  · have := World.ownsMap.len h Tryz.underlying65 ty
    rw [toD_size] at this
    exact this
def createK (k : Dk) (s : ByteArray) (G : Nat) : Int × Dk := if rdy k.dead [s] ≠ 0 then (rdy k.dead [s], k) else if (look k.L s.data.toList).isSome then (32, k) else if 65536 ≤ k.L.length then (35, k) else if k.can then (0, (k.spent.addFile G).did (DC.mk s.data.toList G)) else (34, k.spent)
set_option maxHeartbeats 2000000 in
set_option maxRecDepth 1000000 in
theorem createOf (d : Nat) (k : Dk) (n : Nat) (S : Nat → Prop) (s : ByteArray) (hs : s.size ≤ maxLen) (w : World) (h : DiskAt w d k S) (hk : k.Dok n) (hn : n ≤ 4398046511103) : Calls Tryz.prog 40 #[.pointer (some ⟨d, 0, none⟩), .string s] w fun e w' => ∃ G, w.heap.size ≤ G ∧ OpPost d (createK k s G) S w e w' := by
  have HB1 : Hid (Below w.heap.size w (w.alloc (.cells #[.string s] 9))) := (Below.refl _ _).alloc (Nat.le_refl _) _
  have HS : Hid (St S w d k (w.alloc (.cells #[.string s] 9))) := (St.start h).below HB1.out
  obtain ⟨ms, md, vc, rc, Sf, hm⟩ := HS.out.at
  have HR : Hid (Calls Tryz.prog 77 #[.pointer (some ⟨d, 0, none⟩), .slice (some ⟨w.heap.size, 0, none⟩) 1 1] (w.alloc (.cells #[.string s] 9)) fun e w' => e = .returned (.int .i64 (rdy k.dead [s])) ∧ w' = w.alloc (.cells #[.string s] 9)) := readyOf d k.dead [s] _ _ hm.at0.2 (StrsAt.one w s 9 hs)
  have HSP : Hid (Calls Tryz.prog 78 #[.pointer (some ⟨d, 0, none⟩)] (w.alloc (.cells #[.string s] 9)) fun e w' => e = .returned (.bool k.can) ∧ St (Ext S w (w.alloc (.cells #[.string s] 9))) (w.alloc (.cells #[.string s] 9)) d k.spent w') := spendSt d k _ _ HS.out.1 hk.ok.ops.1 (by have := hk.ok.ops.2; omega) hk.ok.fuse
  have hlk := lookO (w.alloc (.cells #[.string s] 9)) ms k.L hm.seen s hs
  have hle := fun ty => lenO (w.alloc (.cells #[.string s] 9)) ms k.L hm.seen ty
  have c0 := hm.at0.1
  have HK : Hid (k.Dok n) := hk
  have hlen := hk.few
  clear hm h hk
  by_cases h0 : rdy k.dead [s] = 0
  · rw [h0] at HR
    cases hl : look k.L s.data.toList with
    | some g =>
      have HE : Hid (createK k s w.heap.size = (32, k)) := by unfold Hid createK; rw [h0, hl]; rfl
      rw [hl] at hlk
      simp only [ptrO, Option.elim] at hlk
      clear hl h0
      go_enter Tryz.func40, Tryz.ntmps40
      go_wp2_with fail
      refine HR.out.mono ?_
      rintro e w1 ⟨rfl, rfl⟩
      go_wp2
      go_ret
      exact ⟨w.heap.size, Nat.le_refl _, by rw [HE.out]; exact ⟨rfl, HS.out⟩⟩
    | none =>
      rw [hl] at hlk
      simp only [ptrO, Option.elim] at hlk
      obtain ⟨N, hN⟩ : ∃ N, k.L.length = N := ⟨_, rfl⟩
      rw [hN] at hle hlen
      have HN : Hid (k.L.length = N) := hN
      by_cases hf : 65536 ≤ N
      · have HE : Hid (createK k s w.heap.size = (35, k)) := by unfold Hid createK; rw [h0, hl, if_neg (by simp), if_neg (by simp), hN, if_pos hf]
        obtain rfl : N = 65536 := by omega
        clear hl h0 hN hf hlen HN
        go_enter Tryz.func40, Tryz.ntmps40
        go_wp2_with fail
        refine HR.out.mono ?_
        rintro e w1 ⟨rfl, rfl⟩
        go_wp2
        go_ret
        exact ⟨w.heap.size, Nat.le_refl _, by rw [HE.out]; exact ⟨rfl, HS.out⟩⟩
      · have HCR : Hid (∀ G, createK k s G = if k.can then (0, (k.spent.addFile G).did (DC.mk s.data.toList G)) else (34, k.spent)) := fun G => by unfold createK; rw [h0, hl, if_neg (by simp), if_neg (by simp), hN, if_neg hf]
        have hf2 : N < 65536 := by omega
        clear h0 hN hf hlen
        cases hc : k.can with
        | false =>
          rw [hc] at HSP HCR
          clear hl hc
          go_enter Tryz.func40, Tryz.ntmps40
          go_wp2_with fail
          refine HR.out.mono ?_
          rintro e w1 ⟨rfl, rfl⟩
          go_wp2_with fail
          refine HSP.out.mono ?_
          rintro e w2 ⟨rfl, hs2⟩
          have HS2 : Hid (St S w d k.spent w2) := HS.out.next hs2
          clear hs2
          go_wp2
          go_ret
          exact ⟨w.heap.size, Nat.le_refl _, by rw [HCR.out]; exact ⟨rfl, HS2.out⟩⟩
        | true =>
          rw [hc] at HSP HCR
          clear hl hc
          go_enter Tryz.func40, Tryz.ntmps40
          go_wp2_with fail
          refine HR.out.mono ?_
          rintro e w1 ⟨rfl, rfl⟩
          go_wp2_with fail
          refine HSP.out.mono ?_
          rintro e w2 ⟨rfl, hs2⟩
          have HS2 : Hid (St S w d k.spent w2) := HS.out.next hs2
          clear hs2
          have HS3 : Hid (St S w d (k.spent.addFile w2.heap.size) (w2.alloc emptyF)) := addFileSt HS2.out
          have HDO : Hid (Calls Tryz.prog 34 #[.pointer (some ⟨d, 0, none⟩), .iface 77 (.agg #[.string s, .pointer (some ⟨w2.heap.size, 0, none⟩)])] (w2.alloc emptyF) fun e w' => e = .returned (.tuple #[]) ∧ St (Ext S w (w2.alloc emptyF)) (w2.alloc emptyF) d ((k.spent.addFile w2.heap.size).did (DC.mk s.data.toList w2.heap.size)) w') := by
            have := doDOf (w2.alloc emptyF) d (k.spent.addFile w2.heap.size) _ (DC.mk s.data.toList w2.heap.size) HS3.out.1 (by show s.data.toList.length ≤ maxLen; rw [Array.length_toList]; exact hs) (by show k.L.length < _; have := HN.out; omega) (by show k.chg.length ≤ _; have := HK.out.cnt; omega)
            rw [DC.val_mk, str_of] at this
            exact this
          go_wp2_with fail
          refine HDO.out.mono ?_
          rintro e w3 ⟨rfl, hs3⟩
          have HS4 : Hid (St S w d ((k.spent.addFile w2.heap.size).did (DC.mk s.data.toList w2.heap.size)) w3) := HS3.out.next hs3
          have HSZ : Hid (w.heap.size ≤ w2.heap.size) := HS2.out.2.size
          clear hs3
          go_wp2
          go_ret
          exact ⟨w2.heap.size, HSZ.out, by rw [HCR.out]; exact ⟨rfl, HS4.out⟩⟩
  · have HE : Hid (createK k s w.heap.size = (rdy k.dead [s], k)) := by unfold Hid createK; rw [if_pos h0]
    obtain ⟨z, hz⟩ : ∃ z, rdy k.dead [s] = z := ⟨_, rfl⟩
    rw [hz] at HR h0 HE
    have hne : (z != 0) = true := by simpa using h0
    have hne2 : (z == 0) = false := beq_eq_false_iff_ne.mpr h0
    clear hz h0
    go_enter Tryz.func40, Tryz.ntmps40
    go_wp2_with fail
    refine HR.out.mono ?_
    rintro e w1 ⟨rfl, rfl⟩
    go_wp2
    go_ret
    exact ⟨w.heap.size, Nat.le_refl _, by rw [HE.out]; exact ⟨rfl, HS.out⟩⟩
end Go.Proofs.YthcnhjmkcekdaaaGreat
