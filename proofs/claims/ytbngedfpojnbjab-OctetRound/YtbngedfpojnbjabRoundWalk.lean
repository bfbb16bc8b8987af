import Derived.Test.YtbngedfpojnbjabUv
import Derived.Test.YtbngedfpojnbjabZz
namespace Go.Proofs.Ytbngedfpojnbjab
open Go.RowKit Plain
set_option linter.unusedVariables false

set_option maxHeartbeats 1000000 in
set_option maxRecDepth 1000000 in
theorem roundWalk (v u : Nat) (vt : Value) (tail : List Nat) (s : Int) (w : World) (hv : v < 18446744073709551616) (hu : u < 18446744073709551616) (ht : BytesAt w vt tail) (htl : tail.length ≤ 140737488351232)
    (hs1 : -9223372036854775808 ≤ s) (hs2 : s ≤ 9223372036854775807) :
    Calls Try.prog 3 #[.int .u64 v, .int .u64 u, vt, .int .i64 s] w fun e w' => e = .returned (.bool true) ∧ Below w.heap.size w w' := by
  go_enter Try.func3, Try.ntmps3
  go_wp2_with fail
  refine (uvarint v w hv).mono ?_
  rintro e w1 ⟨va, g1, rfl, ho1, hge1, hb1⟩
  obtain ⟨cap1, rfl, hc1, hm1⟩ := ho1.shape
  go_wp2_with fail
  refine (uvarint u w1 hu).mono ?_
  rintro e w2 ⟨vb, g2, rfl, ho2, hge2, hb2⟩
  obtain ⟨cap2, rfl, hc2, hm2⟩ := ho2.shape
  have HO1 : Hid (Own w2 (.slice (some ⟨g1, 0, none⟩) (uv v).length cap1) (uv v) (some g1)) := ho1.later hb2
  have HO2 : Hid (Own w2 (.slice (some ⟨g2, 0, none⟩) (uv u).length cap2) (uv u) (some g2)) := ho2
  have HB2 : Hid (Below w.heap.size w w2) := below_on hb1 hb2
  have HT : Hid (BytesAt w2 vt tail) := ht.later HB2.out
  have h10 := uv_len10 (show v < 2 ^ 64 from hv)
  have h10u := uv_len10 (show u < 2 ^ 64 from hu)
  have h1 := uv_pos v
  have HRD : Hid (rd (uv v ++ tail) = (v, (uv v).length, 0)) := by
    have := rd_uv v 0 0 tail (by simpa using hv) (.inl rfl) (by decide)
    unfold Hid rd
    simpa using this
  have HPART : Hid (∀ i, i < (uv v).length → rd ((uv v).take i) = (0, 0, 10)) := fun i hi => rd_part v 0 0 i (by simpa using hv) (by decide) hi
  have HMONO : Hid (v < u → (uv v).length ≤ (uv u).length) := fun h => uv_mono v u (by omega)
  have HAP : Hid (v ≠ u → uv v ≠ (uv u).take (uv v).length) := fun h e => h (uv_apart v u (by rw [e]; exact List.take_prefix _ _))
  clear ho1 ho2 hb1 hb2 hge1 hge2 ht
  unfold maxLen at hm1 hm2
  -- four ways: whether v is below, at or above u, and whose length is the greater
  have hways : (v < u ∧ (uv v).length ≤ (uv u).length) ∨ (v = u) ∨ (u < v ∧ (uv v).length ≤ (uv u).length) ∨ (u < v ∧ (uv u).length < (uv v).length) := by
    have := HMONO.out
    omega
  clear HMONO
  go_wp2_with (at_builtin; refine wpList_append_row _ rfl _ _ 23 23 rfl Try.underlying23 _ _ [] (uv v) (some w2.heap.size) rfl rfl ?hOwn ?hByte ?hSrc ?hLen ?_)
  case hOwn => exact Own.empty w2 5
  case hByte => exact uv_byte v
  case hSrc => exact src_of Try.underlying23 ((HO1.out.later ((Below.refl _ _).alloc (Nat.le_refl _) _)).bytes)
  case hLen => simp; omega
  intro v3 w3 r3 ho3 hg3 hr3 hn3
  have HB3 : Hid (Below w2.heap.size w2 w3) := grow_below (grow_trans (World.grownBy_alloc w2 _ none) hg3 (.inr (.inr ⟨_, rfl, Nat.le_refl _⟩))) (Nat.le_refl _) (by simp)
  have HO3 : Hid (Own w3 v3 (uv v) r3) := ho3
  have HR3 : Hid (∀ g, r3 = some g → w2.heap.size ≤ g) := by
    intro g hg
    rcases hr3 with rfl | rfl
    · simp at hg; omega
    · simp at hg; omega
  clear ho3 hg3 hr3 hn3
  go_wp2_with (at_builtin; refine wpList_append_row _ rfl _ _ 23 23 rfl Try.underlying23 _ _ (uv v) tail r3 rfl rfl ?hOwn ?hByte ?hSrc ?hLen ?_)
  case hOwn => exact HO3.out
  case hByte => exact HT.out.byte
  case hSrc => exact src_of Try.underlying23 (HT.out.later HB3.out)
  case hLen => omega
  intro v4 w4 r4 ho4 hg4 hr4 hn4
  have HB4 : Hid (Below w2.heap.size w2 w4) := HB3.out.trans (grow_below hg4 HB3.out.size HR3.out)
  have HO4 : Hid (Own w4 v4 (uv v ++ tail) r4) := ho4
  clear ho4 hg4 hr4 hn4 HO3 HR3 HB3
  go_wp2_with fail
  refine (readUvarint v4 (uv v ++ tail) w4 HO4.out.bytes).mono ?_
  rw [HRD.out]
  rintro e w5 ⟨rfl, rfl⟩
  have HA : Hid (BytesAt w5 (.slice (some ⟨g1, 0, none⟩) (uv v).length cap1) (uv v)) := (HO1.out.later HB4.out).bytes
  have HBB : Hid (BytesAt w5 (.slice (some ⟨g2, 0, none⟩) (uv u).length cap2) (uv u)) := (HO2.out.later HB4.out).bytes
  have HW : Hid (Below w.heap.size w w5) := below_on HB2.out HB4.out
  clear HO1 HO2 HO4 HB2 HB4 HT HRD
  have e1 : ((v : Int) != (v : Int)) = false := by simp
  have e2 : (((uv v).length : Int) != ((uv v).length : Int)) = false := by simp
  have HUN : Hid (unzz (zz s) = s) := unzz_zz s
  have HZU : Hid (zz (unzz v) = v) := zz_unzz v (by omega)
  have hz := zz_range s hs1 hs2
  have huz := unzz_range v (by omega) (by omega)
  rcases hways with ⟨ha, hb⟩ | ha | ⟨ha, hb⟩ | ⟨ha, hb⟩
  · have e3 : ((v : Int) != (u : Int)) = true := by simp; omega
    have HN : Hid (uv v ≠ (uv u).take (uv v).length) := HAP.out (by omega)
    clear HAP
    go_wp2_with fail
    refine (sameNo _ _ (uv v) ((uv u).take (uv v).length) _ HN.out HA.out (HBB.out.take _ hb)).mono ?_
    rintro e w5' ⟨rfl, nd, rfl⟩
    clear HBB HN
    go_wp2
    go_loop [14] (fun i => ∃ k : Nat, k ≤ (uv v).length ∧ i = .int .i64 k) (fun i => (uv v).length - (intOf i).toNat)
    case atStart => exact ⟨0, by omega, rfl⟩
    case round =>
      obtain ⟨k, hk, rfl⟩ := hrel
      by_cases hlt : k < (uv v).length
      · have HP : Hid (rd ((uv v).take k) = (0, 0, 10)) := HPART.out k hlt
        have HK : Hid (BytesAt (w5.drewN nd) (.slice (some ⟨g1, 0, none⟩) k cap1) ((uv v).take k)) := HA.out.take k (by omega)
        have hkc : k ≤ cap1 := by omega
        clear HA HPART
        go_wp2_with fail
        refine (readUvarint _ ((uv v).take k) _ HK.out).mono ?_
        rw [HP.out]
        rintro e w6 ⟨rfl, rfl⟩
        go_wp2
        go_round
        case rel => exact ⟨k + 1, by omega, by go_num⟩
        case measure => simp [intOf]; omega
      · clear HA HPART
        go_wp2_with fail
        refine (zigzag s _ hs1 hs2).mono ?_
        rintro e w6 ⟨rfl, rfl⟩
        go_wp2_with fail
        refine (unzigzag (zz s) _ hz.1 hz.2).mono ?_
        rw [HUN.out]
        rintro e w7 ⟨rfl, rfl⟩
        go_wp2_with fail
        refine (unzigzag v _ (by omega) (by omega)).mono ?_
        rintro e w8 ⟨rfl, rfl⟩
        go_wp2_with fail
        refine (zigzag (unzz v) _ huz.1 huz.2).mono ?_
        rw [HZU.out]
        rintro e w9 ⟨rfl, rfl⟩
        go_wp2
        go_ret
        exact ⟨rfl, below_drewN HW.out nd⟩
  · subst ha
    clear HAP HBB
    go_wp2
    go_loop [14] (fun i => ∃ k : Nat, k ≤ (uv v).length ∧ i = .int .i64 k) (fun i => (uv v).length - (intOf i).toNat)
    case atStart => exact ⟨0, by omega, rfl⟩
    case round =>
      obtain ⟨k, hk, rfl⟩ := hrel
      by_cases hlt : k < (uv v).length
      · have HP : Hid (rd ((uv v).take k) = (0, 0, 10)) := HPART.out k hlt
        have HK : Hid (BytesAt w5 (.slice (some ⟨g1, 0, none⟩) k cap1) ((uv v).take k)) := HA.out.take k (by omega)
        have hkc : k ≤ cap1 := by omega
        clear HA HPART
        go_wp2_with fail
        refine (readUvarint _ ((uv v).take k) _ HK.out).mono ?_
        rw [HP.out]
        rintro e w6 ⟨rfl, rfl⟩
        go_wp2
        go_round
        case rel => exact ⟨k + 1, by omega, by go_num⟩
        case measure => simp [intOf]; omega
      · clear HA HPART
        go_wp2_with fail
        refine (zigzag s _ hs1 hs2).mono ?_
        rintro e w6 ⟨rfl, rfl⟩
        go_wp2_with fail
        refine (unzigzag (zz s) _ hz.1 hz.2).mono ?_
        rw [HUN.out]
        rintro e w7 ⟨rfl, rfl⟩
        go_wp2_with fail
        refine (unzigzag v _ (by omega) (by omega)).mono ?_
        rintro e w8 ⟨rfl, rfl⟩
        go_wp2_with fail
        refine (zigzag (unzz v) _ huz.1 huz.2).mono ?_
        rw [HZU.out]
        rintro e w9 ⟨rfl, rfl⟩
        go_wp2
        go_ret
        exact ⟨rfl, HW.out⟩
  · have e3 : ((v : Int) != (u : Int)) = true := by simp; omega
    have HN : Hid (uv v ≠ (uv u).take (uv v).length) := HAP.out (by omega)
    clear HAP
    go_wp2_with fail
    refine (sameNo _ _ (uv v) ((uv u).take (uv v).length) _ HN.out HA.out (HBB.out.take _ hb)).mono ?_
    rintro e w5' ⟨rfl, nd, rfl⟩
    clear HBB HN
    go_wp2
    go_loop [14] (fun i => ∃ k : Nat, k ≤ (uv v).length ∧ i = .int .i64 k) (fun i => (uv v).length - (intOf i).toNat)
    case atStart => exact ⟨0, by omega, rfl⟩
    case round =>
      obtain ⟨k, hk, rfl⟩ := hrel
      by_cases hlt : k < (uv v).length
      · have HP : Hid (rd ((uv v).take k) = (0, 0, 10)) := HPART.out k hlt
        have HK : Hid (BytesAt (w5.drewN nd) (.slice (some ⟨g1, 0, none⟩) k cap1) ((uv v).take k)) := HA.out.take k (by omega)
        have hkc : k ≤ cap1 := by omega
        clear HA HPART
        go_wp2_with fail
        refine (readUvarint _ ((uv v).take k) _ HK.out).mono ?_
        rw [HP.out]
        rintro e w6 ⟨rfl, rfl⟩
        go_wp2
        go_round
        case rel => exact ⟨k + 1, by omega, by go_num⟩
        case measure => simp [intOf]; omega
      · clear HA HPART
        go_wp2_with fail
        refine (zigzag s _ hs1 hs2).mono ?_
        rintro e w6 ⟨rfl, rfl⟩
        go_wp2_with fail
        refine (unzigzag (zz s) _ hz.1 hz.2).mono ?_
        rw [HUN.out]
        rintro e w7 ⟨rfl, rfl⟩
        go_wp2_with fail
        refine (unzigzag v _ (by omega) (by omega)).mono ?_
        rintro e w8 ⟨rfl, rfl⟩
        go_wp2_with fail
        refine (zigzag (unzz v) _ huz.1 huz.2).mono ?_
        rw [HZU.out]
        rintro e w9 ⟨rfl, rfl⟩
        go_wp2
        go_ret
        exact ⟨rfl, below_drewN HW.out nd⟩
  · have e3 : ((v : Int) != (u : Int)) = true := by simp; omega
    clear HAP HBB
    go_wp2
    go_loop [14] (fun i => ∃ k : Nat, k ≤ (uv v).length ∧ i = .int .i64 k) (fun i => (uv v).length - (intOf i).toNat)
    case atStart => exact ⟨0, by omega, rfl⟩
    case round =>
      obtain ⟨k, hk, rfl⟩ := hrel
      by_cases hlt : k < (uv v).length
      · have HP : Hid (rd ((uv v).take k) = (0, 0, 10)) := HPART.out k hlt
        have HK : Hid (BytesAt w5 (.slice (some ⟨g1, 0, none⟩) k cap1) ((uv v).take k)) := HA.out.take k (by omega)
        have hkc : k ≤ cap1 := by omega
        clear HA HPART
        go_wp2_with fail
        refine (readUvarint _ ((uv v).take k) _ HK.out).mono ?_
        rw [HP.out]
        rintro e w6 ⟨rfl, rfl⟩
        go_wp2
        go_round
        case rel => exact ⟨k + 1, by omega, by go_num⟩
        case measure => simp [intOf]; omega
      · clear HA HPART
        go_wp2_with fail
        refine (zigzag s _ hs1 hs2).mono ?_
        rintro e w6 ⟨rfl, rfl⟩
        go_wp2_with fail
        refine (unzigzag (zz s) _ hz.1 hz.2).mono ?_
        rw [HUN.out]
        rintro e w7 ⟨rfl, rfl⟩
        go_wp2_with fail
        refine (unzigzag v _ (by omega) (by omega)).mono ?_
        rintro e w8 ⟨rfl, rfl⟩
        go_wp2_with fail
        refine (zigzag (unzz v) _ huz.1 huz.2).mono ?_
        rw [HZU.out]
        rintro e w9 ⟨rfl, rfl⟩
        go_wp2
        go_ret
        exact ⟨rfl, HW.out⟩
end Go.Proofs.Ytbngedfpojnbjab
