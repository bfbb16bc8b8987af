import Derived.Test.YteekmmgopnnioaaDoorMnN
/-! Names of files: the program's readName. -/
namespace Go.Proofs.YteekmmgopnnioaaDoor.Mn
open Go.RowKit
set_option linter.unusedVariables false
set_option linter.unusedSimpArgs false

set_option maxHeartbeats 4000000 in
set_option maxRecDepth 100000 in
theorem readName2 (s : ByteArray) (a b : By) (he : parts (Lib.trimPrefix (Lib.trimSuffix s.data.toList tmpB) [116]) = [a, b]) (hcat0 : Lib.trimSuffix s.data.toList tmpB ≠ catB) (hs : s.size ≤ 281474976710656) (w : World) (h : Errs w) :
    Calls Tryd.prog 25 #[.string s] w fun e w' => e = .returned (rd s.data.toList).val ∧ Below w.heap.size w w' := by
  have HC : Hid (∀ v, Calls Tryd.prog 37 #[.string s, .string ⟨#[46, 116, 109, 112]⟩] v fun e w' => e = .returned (.tuple #[.string ⟨(Lib.trimSuffix s.data.toList tmpB).toArray⟩, .bool (Lib.hasSuffix s.data.toList tmpB)]) ∧ w' = v) := cutOf s hs
  have HR : Hid (rd s.data.toList = if Lib.trimSuffix s.data.toList tmpB = catB then ⟨4, 0, 0, Lib.hasSuffix s.data.toList tmpB⟩ else rdP (Lib.hasSuffix s.data.toList tmpB) (parts (Lib.trimPrefix (Lib.trimSuffix s.data.toList tmpB) [116]))) := rfl
  have hSz0 : (Lib.trimSuffix s.data.toList tmpB).length ≤ 281474976710656 := by
    have h3 : s.data.toList.length = s.size := by simp
    unfold Lib.trimSuffix
    split
    · rw [List.length_take]; omega
    · omega
  generalize rd s.data.toList = n at HR ⊢
  generalize Lib.hasSuffix s.data.toList tmpB = t at HC HR
  obtain ⟨S, hS⟩ : ∃ S : ByteArray, (⟨(Lib.trimSuffix s.data.toList tmpB).toArray⟩ : ByteArray) = S := ⟨_, rfl⟩
  have hSl : Lib.trimSuffix s.data.toList tmpB = S.data.toList := by rw [← hS]
  rw [hS] at HC
  rw [hSl] at HR he hcat0
  have hSz : S.size ≤ 281474976710656 := by
    rw [← hS]; exact hSz0
  clear hS hSl hSz0
  go_enter Tryd.func25, Tryd.ntmps25
  go_wp2_with fail
  refine (HC.out _).mono ?_
  rintro e w1 ⟨rfl, rfl⟩
  have hcat := hcat0
  have hne := neq_of (s := S) (l := [99, 97, 116, 97, 108, 111, 103]) (fun e => hcat (by rw [e]; rfl))
  have HR2 : Hid (n = rdP t (parts (Lib.trimPrefix S.data.toList [116]))) := by
    unfold Hid
    rw [HR.out, if_neg hcat]
  have hSs : S.size ≤ 281474976710656 := hSz
  obtain ⟨T, hT⟩ : ∃ T : ByteArray, (⟨(Lib.trimPrefix S.data.toList [116]).toArray⟩ : ByteArray) = T := ⟨_, rfl⟩
  have hTl : Lib.trimPrefix S.data.toList [116] = T.data.toList := by rw [← hT]
  have hTs : T.size ≤ 281474976710656 := by
    have h1 : T.size = (Lib.trimPrefix S.data.toList [116]).length := by rw [← hT]; rfl
    have h2 : (Lib.trimPrefix S.data.toList [116]).length ≤ S.data.toList.length := by
      unfold Lib.trimPrefix
      split
      · rw [List.length_drop]; omega
      · exact Nat.le_refl _
    have h3 : S.data.toList.length = S.size := by simp
    omega
  rw [hTl] at HR2 he
  have HTR : Hid (∀ v, Calls Tryd.prog 39 #[.string S, .string ⟨#[116]⟩] v fun e w' => e = .returned (.string T) ∧ w' = v) := fun v => by
    have := trimOf S v
    rwa [hT] at this
  have HSP : Hid (∀ v, Calls Tryd.prog 38 #[.string T, .string ⟨#[46]⟩, .int .i64 3] v (SpPost T.data.toList v)) := splitNOf T hTs
  have HNU : Hid (∀ (u : ByteArray) (v : World), u.size ≤ 281474976710656 → Errs v → Calls Tryd.prog 41 #[.string u] v fun e w' => e = .returned (.int .i64 (num u.data.toList)) ∧ Below v.heap.size v w') := fun u v a b => numberOf u a v b
  have HKI : Hid (∀ (u : ByteArray) (v : World), Calls Tryd.prog 40 #[.string u] v fun e w' => e = .returned (.int .i64 (kindL u.data.toList)) ∧ w' = v) := kindOfOf
  have HE : Hid (Errs w) := h
  have HPL : Hid (∀ p ∈ parts T.data.toList, p.length ≤ 281474976710656) := fun p hp => by
    have h1 := parts_len hp
    have h3 : T.data.toList.length = T.size := by simp
    omega
  clear hT hTl hcat hcat0 HR HC h hs
  obtain ⟨W0, hW0⟩ : ∃ W0, w.alloc (.cells #[.int .i64 0, .int .i64 0, .int .i64 0, .bool false] 23) = W0 := ⟨_, rfl⟩
  go_wp2_with fail
  refine (HTR.out _).mono ?_
  rintro e w2 ⟨rfl, rfl⟩
  go_wp2_with fail
  refine (HSP.out _).mono ?_
  rintro e w3 ⟨c, rfl, h1, h2, h3, h4⟩
  have hBW : Below w.heap.size w w2 := by
    rw [← hW0]
    exact (Below.refl _ _).alloc (Nat.le_refl _) _
  have hW2s : w2.heap.size = w.heap.size + 1 := by rw [← hW0]; simp
  have HB3 : Hid (Below w.heap.size w w3) := below_on hBW h3
  have HR0 : Hid (Own4 w3 w.heap.size (.int .i64 0) (.int .i64 0) (.int .i64 0) (.bool false)) := by
    have : Own4 w2 w.heap.size (.int .i64 0) (.int .i64 0) (.int .i64 0) (.bool false) := by rw [← hW0]; exact Own4.new _ _ _ _ _
    exact this.later h3
  have hB : w2.heap.size < w3.heap.size := by
    exact cell_lt (h4 0 a (by rw [he]; rfl))
  have HEL : Hid (∀ v, Below w3.heap.size w3 v → Errs v) := fun v hv => HE.out.later (below_on HB3.out hv)
  clear h3 hW0
  generalize hBk : w2.heap.size = Bk at *
  clear hBk hBW hW2s
  have hwr0 : IntKind.i64.wrap 0 = 0 := by rfl
  have hwr1 : IntKind.i64.wrap 1 = 1 := by rfl
  have hwr2 : IntKind.i64.wrap 2 = 2 := by rfl
  rw [he] at h1 h4 HR2 HPL
  rw [he, show ([a, b] : List By).length = 2 from rfl]
  rw [show ([a, b] : List By).length = 2 from rfl] at h1
  have hsx : (⟨a.toArray⟩ : ByteArray).size ≤ 281474976710656 := HPL.out a (by simp)
  have hsy : (⟨b.toArray⟩ : ByteArray).size ≤ 281474976710656 := HPL.out b (by simp)
  have HCL : Hid (∀ v, Below w3.heap.size w3 v → v.cell? ⟨Bk, 0, none⟩ = some (.string ⟨a.toArray⟩) ∧ v.cell? ⟨Bk, 1, none⟩ = some (.string ⟨b.toArray⟩)) := fun v hv => ⟨(hv.cell hB).trans (h4 0 a rfl), (hv.cell hB).trans (h4 1 b rfl)⟩
  obtain ⟨z0, z1⟩ := HCL.out w3 (Below.refl _ _)
  have HNA : Hid (∀ v, Below w3.heap.size w3 v → Calls Tryd.prog 41 #[.string ⟨a.toArray⟩] v fun e w' => e = .returned (.int .i64 (num a)) ∧ Below v.heap.size v w') := fun v hv => by
    have := HNU.out ⟨a.toArray⟩ v hsx (HEL.out v hv)
    simpa using this
  have HKA : Hid (∀ v, Calls Tryd.prog 40 #[.string ⟨b.toArray⟩] v fun e w' => e = .returned (.int .i64 (kindL b)) ∧ w' = v) := fun v => by
    have := HKI.out ⟨b.toArray⟩ v
    simpa using this
  have HR3 : Hid (n = ⟨kindL b, num a, 0, t⟩) := HR2.out
  clear h4 HNU HKI HR2 HPL HTR HSP HE
  generalize hka : kindL b = ka at *
  generalize hna : num a = na at *
  clear hka hna
  go_upto_region 5 with fail
  go_cut [5] from 18 to 30 (fun s5 wx => ∃ Z, s5 = .pointer (some ⟨Z, 0, none⟩) ∧ Hid (Below w3.heap.size w3 wx ∧ w3.heap.size ≤ Z ∧ Own4 wx Z (.int .i64 ka) (.int .i64 na) (.int .i64 0) (.bool t)))
  case first =>
    go_region_with (first
      | (go_at_call 40
         refine (HKA.out _).mono ?_
         rintro e w4 ⟨rfl, rfl⟩)
      | (go_at_call 41
         refine (HNA.out _ (by first | exact (Below.refl _ w3).drew | exact ((Below.refl _ w3).drew).alloc (by simp) _)).mono ?_
         rintro e w4 ⟨rfl, hb⟩
         have HB4 : Hid (Below w3.heap.size w3 w4) := by
           unfold Hid
           first
             | exact below_on ((Below.refl _ w3).drew) hb
             | exact below_on (((Below.refl _ w3).drew).alloc (by simp) _) hb
         obtain ⟨y0, y1⟩ := HCL.out w4 HB4.out
         try
           have hz : Own4 w4 w3.heap.size (.int .i64 0) (.int .i64 0) (.int .i64 0) (.bool false) := by
             first
               | exact (Own4.newD w3 _ _ _ _).later hb
           have HZ : Hid (Own4 w4 w3.heap.size (.int .i64 0) (.int .i64 0) (.int .i64 0) (.bool false)) := hz
           obtain ⟨q0, q1, q2, q3, qf⟩ := hz
           have f0 := qf 0
           have f1 := qf 1
           have f2 := qf 2
           have f3 := qf 3
           clear qf
         clear hb))
    all_goals
      go_wp2_with fail
      go_meet
      case rel =>
        first
          | exact ⟨_, rfl, HB4.out.alloc HB4.out.size _, HB4.out.size, Own4.new _ _ _ _ _⟩
          | exact ⟨_, rfl, below4 HB4.out (Nat.le_refl _) _ _ _ _, Nat.le_refl _, HZ.out.put _ _ _ _⟩
  case rest =>
    obtain ⟨Z, rfl, HX⟩ := hcut
    obtain ⟨g0, g1, g2, g3, gf⟩ := HX.out.2.2
    have gf2 := gf 2
    have HRW : Hid (Own4 wc w.heap.size (.int .i64 0) (.int .i64 0) (.int .i64 0) (.bool false)) := HR0.out.later HX.out.1
    obtain ⟨r0, r1, r2, r3, rf⟩ := HRW.out
    have rf0 := rf 0
    have rf1 := rf 1
    have rf2 := rf 2
    have rf3 := rf 3
    have HBC : Hid (Below w.heap.size w wc) := below_on HB3.out HX.out.1
    clear gf rf
    go_wp2
    refine bodyPost_ret (v := .agg #[.int .i64 ka, .int .i64 na, .int .i64 0, .bool t]) ?_ rfl ⟨?_, below4 HBC.out (Nat.le_refl _) _ _ _ _⟩
    · obtain ⟨p0, p1, p2, p3, _⟩ := HRW.out.put (.int .i64 ka) (.int .i64 na) (.int .i64 0) (.bool t)
      simp only [results, hres25]
      go_simp
    · rw [HR3.out]
end Go.Proofs.YteekmmgopnnioaaDoor.Mn
