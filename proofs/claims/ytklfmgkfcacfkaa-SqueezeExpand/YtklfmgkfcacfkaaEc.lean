import Derived.Test.YtklfmgkfcacfkaaEb
import Derived.BigQuiet
/-! unharmed. -/
namespace Go.Proofs.Ytklfmgkfcacfkaa
open Go.RowKit Plain
set_option linter.unusedVariables false
set_option linter.unusedSimpArgs false

set_option maxHeartbeats 2000000 in
set_option maxRecDepth 100000 in
theorem unharmedAny (base gl : Nat) (sv : Value) (tg tw : List Tg) (w : World) (h : TRd w sv tg) (hn : ∀ t ∈ tg, t.nums) (hlen : tg.length ≤ 3518437208800) (ht : TwAt base w gl tg tw) :
    Calls Try.prog 16 #[.slice (some ⟨gl, 0, none⟩) (tg.length + 1) (tg.length + 1), sv] w fun e w' => e = .returned (.bool true) ∧ ∃ m, w' = w.drewN m := by
  have HTR : Hid (TRd w sv tg) := h
  obtain ⟨a, cap, rfl, hlc, hcm, hok, hcells⟩ := h
  unfold maxLen at hcm
  have HCS : Hid (tg ≠ [] → ∃ b off, a = some ⟨b, off, none⟩ ∧ ∀ k (hk : k < tg.length), w.cell? ⟨b, off + k * 3, none⟩ = some tg[k].v ∧ w.cell? ⟨b, off + k * 3 + 1, none⟩ = some (.int .i64 tg[k].d) ∧ w.cell? ⟨b, off + k * 3 + 2, none⟩ = some (.int .i64 tg[k].n)) := hcells
  have HOK : Hid (∀ t ∈ tg, t.ok w) := hok
  have HNU : Hid (∀ t ∈ tg, t.nums) := hn
  have HTW : Hid (TwAt base w gl tg tw) := ht
  have HRD : Hid (TRd w (.slice (some ⟨gl, 0, none⟩) tg.length (tg.length + 1)) tw) := ht.rd hn
  have HC3 : Hid (tw.map Tg.c3 = tg.map Tg.c3) := ht.c3
  obtain ⟨e0, e1, e2, -, -, -⟩ := ht.own.cells3 (k := tg.length) (t := mT) (by
    have := ht.len
    rw [List.getElem?_append_right (by omega), this, Nat.sub_self]
    rfl)
  simp only [mT] at e0 e1 e2
  have HEM : Hid (∀ m, (w.drewN m).cell? ⟨gl, tg.length * 3 + 1, none⟩ = some (.int .i64 77) ∧ (w.drewN m).cell? ⟨gl, tg.length * 3 + 2, none⟩ = some (.int .i64 (-5))) := fun m => ⟨e1, e2⟩
  obtain ⟨N, hN⟩ : ∃ N, tg.length + 1 = N := ⟨_, rfl⟩
  have hNl : tg.length < N := by omega
  have hNb : N ≤ 3518437208801 := by omega
  rw [hN] at HRD ⊢
  clear hok hcells hn ht e0 e1 e2 hN
  go_enter Try.func16, Try.ntmps16
  go_wp2_with fail
  refine (sameC3 _ _ tw tg w HRD.out HTR.out HC3.out).mono ?_
  rintro e w1 ⟨rfl, m1, rfl⟩
  obtain ⟨x1, x2⟩ := HEM.out m1
  go_wp2
  go_loopw [5] (fun s wx => ∃ i m : Nat, wx = w.drewN m ∧ s = .int .i64 i ∧ i ≤ tg.length) (fun s _ => tg.length - (intOf s).toNat)
  case atStart => exact ⟨0, _, rfl, rfl, by omega⟩
  case round =>
    obtain ⟨i, m, rfl, rfl, hi⟩ := hrel
    clear x1 x2
    by_cases hlt : i < tg.length
    · obtain ⟨b, off, rfl, HC⟩ := HCS.out (by rintro rfl; simp at hlt)
      have hltw : i < tw.length := by rw [HTW.out.len]; exact hlt
      have hck := HC i hlt
      obtain ⟨t, ht⟩ : ∃ t, tg[i] = t := ⟨_, rfl⟩
      obtain ⟨s, hs⟩ : ∃ s, tw[i] = s := ⟨_, rfl⟩
      have hokt : t.ok w := HOK.out t (by rw [← ht]; exact List.getElem_mem hlt)
      have hnut : t.nums := HNU.out t (by rw [← ht]; exact List.getElem_mem hlt)
      have hc3 : s.c3 = t.c3 := by
        have e : (tw.map Tg.c3)[i]? = (tg.map Tg.c3)[i]? := by rw [HC3.out]
        rw [List.getElem?_map, List.getElem?_map, List.getElem?_eq_getElem hlt, List.getElem?_eq_getElem hltw, ht, hs] at e
        simpa using e
      obtain ⟨G, hv, _, _, hown⟩ := HTW.out.lits s (by rw [← hs]; exact List.getElem_mem hltw)
      obtain ⟨k0, -, -, -, -, -⟩ := HTW.out.own.cells3 (k := i) (t := s) (by rw [List.getElem?_append_left hltw, List.getElem?_eq_getElem hltw, hs])
      rw [ht] at hck
      clear HC ht hs
      obtain ⟨tv, tl, td, tn⟩ := t
      obtain ⟨sv, sl, sd, sn⟩ := s
      simp only [Tg.c3, Prod.mk.injEq] at hc3
      obtain ⟨rfl, rfl, rfl⟩ := hc3
      simp only at hv hown k0
      subst hv
      have c0 : w.cell? ⟨b, off + i * 3, none⟩ = some tv := hck.1
      have k1 : w.cell? ⟨gl, i * 3, none⟩ = some (.slice (some ⟨G, 0, none⟩) sl.length (sl.length + 64)) := k0
      have HLIT : Hid (BytesAt w tv sl) := hokt.1
      have HOW : Hid (Own w (.slice (some ⟨G, 0, none⟩) (sl.length + 64) (sl.length + 64)) (sl ++ tailM sl.length) (some G)) := hown
      have htb : BytesAt w tv sl := hokt.1
      obtain ⟨a6, c6, rfl, hlc6, hcm6, -, -⟩ := htb
      have htl2 : sl.length ≤ 140737488351232 := hnut.1
      unfold maxLen at hcm6
      obtain ⟨P, hP⟩ : ∃ P, sl.length + 64 = P := ⟨_, rfl⟩
      have eP : (sl.length : Int) + 64 = (P : Int) := by omega
      have hPb : P ≤ 140737488351296 := by omega
      have HP : Hid (P = sl.length + 64) := hP.symm
      rw [hP] at k1 HOW
      have hiN : i < N := by omega
      clear hck k0 hown hokt hnut hP
      have HK1 : Hid (∀ n, Calls Try.prog 25 #[.slice (some ⟨G, 0, none⟩) P P, .slice a6 sl.length c6] ((w.drewN m).drewN n) fun e w'' => e = .returned (.bool true) ∧ ∃ q, w'' = (w.drewN m).drewN q) := fun n => by
        refine (keptAny G P P _ sl ((w.drewN m).drewN n) ((HOW.out.later (below_drewN (Below.refl _ _) _)).later (below_drewN (Below.refl _ _) _)) HP.out ((HLIT.out.drewN m).drewN n) htl2).mono ?_
        rintro e w'' ⟨rfl, q, rfl⟩
        exact ⟨rfl, _, World.drewN_drewN _ _ _⟩
      have HK2 : Hid (∀ n, Calls Try.prog 25 #[.slice (some ⟨G, 0, none⟩) P P, .slice a6 sl.length c6] (w.drewN (m + n)) fun e w'' => e = .returned (.bool true) ∧ ∃ q, w'' = w.drewN (m + q)) := fun n => by
        refine (keptAny G P P _ sl (w.drewN (m + n)) (HOW.out.later (below_drewN (Below.refl _ _) _)) HP.out (HLIT.out.drewN _) htl2).mono ?_
        rintro e w'' ⟨rfl, q, rfl⟩
        exact ⟨rfl, n + q, by rw [World.drewN_drewN, Nat.add_assoc]⟩
      go_wp2
      go_quiet ((go_at_call 25; first | exact HK1.out _ | exact HK2.out _))
      go_wp2
      go_roundw
      case rel => first | exact ⟨i + 1, _, rfl, by go_num, by omega⟩ | exact ⟨i + 1, _, World.drewN_drewN _ _ _, by go_num, by omega⟩
      case measure => simp [intOf]; omega
    · clear HCS
      go_wp2
      go_ret
      exact ⟨rfl, _, rfl⟩
end Go.Proofs.Ytklfmgkfcacfkaa
