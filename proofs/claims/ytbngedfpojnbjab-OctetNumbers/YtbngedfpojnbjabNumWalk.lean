import Derived.Test.YtbngedfpojnbjabLaw
import Derived.Test.YtbngedfpojnbjabRef
import Derived.Test.YtbngedfpojnbjabRefRd
namespace Go.Proofs.Ytbngedfpojnbjab
open Go.RowKit Plain
set_option linter.unusedVariables false

set_option maxHeartbeats 1000000 in
set_option maxRecDepth 1000000 in
theorem numWalk (v : Nat) (ab : Option Addr) (capb : Nat) (l : List Nat) (s : Int) (w : World) (hv : v < 18446744073709551616) (hb : BytesAt w (.slice ab l.length capb) l) (hl : l.length ≤ 140737488351232)
    (hs1 : -9223372036854775808 ≤ s) (hs2 : s ≤ 9223372036854775807) :
    Calls Try.prog 4 #[.int .u64 v, .slice ab l.length capb, .int .i64 s] w fun e w' => e = .returned (.bool true) ∧ Below w.heap.size w w' := by
  have HB : Hid (BytesAt w (.slice ab l.length capb) l) := hb
  have HBY : Hid (∀ c ∈ l, c < 256) := hb.byte
  have h10 := uv_len10 (show v < 2 ^ 64 from hv)
  clear hb
  go_enter Try.func4, Try.ntmps4
  go_wp2_with fail
  refine (roomy _ l w HB.out hl).mono ?_
  rintro e w1 ⟨vf, gf, rfl, ho1, hgf, hb1⟩
  obtain ⟨capf, rfl, hcf, hmf⟩ := ho1.shape
  rw [four_len] at ho1 hcf
  rw [four_len]
  have HO1 : Hid (Own w1 (.slice (some ⟨gf, 0, none⟩) (l.length + 4) capf) (l ++ [165, 90, 167, 91]) (some gf)) := ho1
  have HB1 : Hid (Below w.heap.size w w1) := hb1
  have HGF : Hid (w.heap.size ≤ gf) := hgf
  unfold maxLen at hmf
  clear ho1 hb1 hgf
  go_wp2_with fail
  refine (flippedAt gf (l.length + 4) capf l.length (l ++ [165, 90, 167, 91]) w1 (by simp) HO1.out).mono ?_
  rintro e w2 ⟨rfl, ho2, hg2⟩
  have HO2 : Hid _ := ho2
  have HB2 : Hid (Below w.heap.size w w2) := HB1.out.trans (grow_below hg2 HB1.out.size (by intro g hg; simp at hg; have := HGF.out; omega))
  clear ho2 hg2 HO1 HB1
  go_wp2_with fail
  refine (readUvarint _ _ w2 ((Own.take HO2.out l.length (by simp)).bytes)).mono ?_
  rintro e w2' ⟨rfl, rfl⟩
  go_wp2_with fail
  refine (flippedAt gf (l.length + 4) capf l.length _ _ (by simp) HO2.out).mono ?_
  rintro e w3 ⟨rfl, ho3, hg3⟩
  rw [flip_twice l _ HBY.out] at ho3
  have HO3 : Hid (Own w3 (.slice (some ⟨gf, 0, none⟩) (l.length + 4) capf) (l ++ [165, 90, 167, 91]) (some gf)) := ho3
  have HB3 : Hid (Below w.heap.size w w3) := HB2.out.trans (grow_below hg3 HB2.out.size (by intro g hg; simp at hg; have := HGF.out; omega))
  clear ho3 hg3 HO2 HB2
  go_wp2_with fail
  refine (uvarint v w3 hv).mono ?_
  rintro e w4 ⟨vx, gx, rfl, ho4, hgx, hb4⟩
  obtain ⟨capx, rfl, hcx, hmx⟩ := ho4.shape
  unfold maxLen at hmx
  have HX : Hid (Own w4 (.slice (some ⟨gx, 0, none⟩) (uv v).length capx) (uv v) (some gx)) := ho4
  have HF4 : Hid (Own w4 (.slice (some ⟨gf, 0, none⟩) (l.length + 4) capf) (l ++ [165, 90, 167, 91]) (some gf)) := HO3.out.later hb4
  have HB4 : Hid (Below w.heap.size w w4) := below_on HB3.out hb4
  clear ho4 hgx hb4 HO3 HB3
  go_wp2_with fail
  refine (uvarint v w4 hv).mono ?_
  rintro e w5 ⟨vy, gy, rfl, ho5, hgy, hb5⟩
  have HX5 : Hid (Own w5 (.slice (some ⟨gx, 0, none⟩) (uv v).length capx) (uv v) (some gx)) := HX.out.later hb5
  have HF5 : Hid (Own w5 (.slice (some ⟨gf, 0, none⟩) (l.length + 4) capf) (l ++ [165, 90, 167, 91]) (some gf)) := HF4.out.later hb5
  have HB5 : Hid (Below w.heap.size w w5) := below_on HB4.out hb5
  have HY5 : Hid (Own w5 vy (uv v) (some gy)) := ho5
  have hsz4 : w4.heap.size ≤ gy := hgy
  have hgxl : gx < w4.heap.size := HX.out.lt
  have hgfl : gf < w4.heap.size := HF4.out.lt
  have hb4s : w.heap.size ≤ w4.heap.size := HB4.out.size
  have HGY : Hid (w.heap.size ≤ gy ∧ gx ≠ gy ∧ gf ≠ gy) := ⟨by omega, by omega, by omega⟩
  clear ho5 hgy hb5 HX HF4 HB4 hsz4 hgxl hgfl hb4s
  go_wp2_with fail
  refine (marked vy (uv v) (some gy) 3 (uv v).length w5 rfl HY5.out (by decide) (by omega)).mono ?_
  rintro e w6 ⟨vy', ry, rfl, hoy, hg6, hry, hny⟩
  have HX6 : Hid (Own w6 (.slice (some ⟨gx, 0, none⟩) (uv v).length capx) (uv v) (some gx)) := HX5.out.kept hg6 (.inr (by have := HGY.out.2.1; simp; omega))
  have HF6 : Hid (Own w6 (.slice (some ⟨gf, 0, none⟩) (l.length + 4) capf) (l ++ [165, 90, 167, 91]) (some gf)) := HF5.out.kept hg6 (.inr (by have := HGY.out.2.2; simp; omega))
  have HB6 : Hid (Below w.heap.size w w6) := HB5.out.trans (grow_below hg6 HB5.out.size (by intro g hg; simp at hg; have := HGY.out.1; omega))
  obtain ⟨ay, capy, hvy⟩ : ∃ a cap, vy' = .slice a ((uv v).length + 64) cap := by
    obtain ⟨a, cap, e, _⟩ := hoy.bytes
    exact ⟨a, cap, by rw [e]; simp⟩
  subst hvy
  clear hoy hg6 hry hny HX5 HF5 HB5 HY5 HGY
  go_wp2_with fail
  refine (readUvarint _ l w6 (by have := (Own.take HF6.out l.length (by simp)).bytes; rwa [List.take_left] at this)).mono ?_
  rintro e w7 ⟨rfl, rfl⟩
  go_wp2_with fail
  refine (refReadUvarint _ l _ (HB.out.later HB6.out)).mono ?_
  rintro e w8 ⟨rfl, rfl⟩
  go_wp2_with fail
  refine (refUvarint v _ hv).mono ?_
  rintro e w9 ⟨vz, gz, rfl, ho9, hgz, hb9⟩
  have HX9 : Hid (Own w9 (.slice (some ⟨gx, 0, none⟩) (uv v).length capx) (uv v) (some gx)) := HX6.out.later hb9
  have HF9 : Hid (Own w9 (.slice (some ⟨gf, 0, none⟩) (l.length + 4) capf) (l ++ [165, 90, 167, 91]) (some gf)) := HF6.out.later hb9
  have HB9 : Hid (Below w.heap.size w w9) := below_on HB6.out hb9
  have HZ9 : Hid (Own w9 vz (uv v) (some gz)) := ho9
  clear ho9 hgz hb9 HX6 HF6 HB6
  go_wp2_with fail
  refine (sameYes _ _ (uv v) _ HX9.out.bytes HZ9.out.bytes).mono ?_
  rintro e w10 ⟨rfl, n10, rfl⟩
  go_wp2_with fail
  refine (roomy _ l _ (HB.out.later (below_drewN HB9.out n10)) hl).mono ?_
  rintro e w11 ⟨vr, gr, rfl, ho11, hgr, hb11⟩
  have HF11 : Hid (BytesAt w11 (.slice (some ⟨gf, 0, none⟩) (l.length + 4) capf) (l ++ [165, 90, 167, 91])) := (HF9.out.bytes.drewN n10).later hb11
  have HB11 : Hid (Below w.heap.size w w11) := below_on (below_drewN HB9.out n10) hb11
  have HR11 : Hid (Own w11 vr (l ++ [165, 90, 167, 91]) (some gr)) := ho11
  clear ho11 hgr hb11 HX9 HF9 HB9 HZ9
  go_wp2_with fail
  refine (sameYes _ _ (l ++ [165, 90, 167, 91]) _ HF11.out HR11.out.bytes).mono ?_
  rintro e w12 ⟨rfl, n12, rfl⟩
  have huz := unzz_range v (by omega) (by omega)
  go_wp2_with fail
  refine (zigzag s _ hs1 hs2).mono ?_
  rintro e w13 ⟨rfl, rfl⟩
  go_wp2_with fail
  refine (refZigzag s _ hs1 hs2).mono ?_
  rintro e w14 ⟨rfl, rfl⟩
  go_wp2_with fail
  refine (unzigzag v _ (by omega) (by omega)).mono ?_
  rintro e w15 ⟨rfl, rfl⟩
  go_wp2_with fail
  refine (refUnzigzag v _ (by omega) (by omega)).mono ?_
  rintro e w16 ⟨rfl, rfl⟩
  go_wp2
  go_ret
  exact ⟨rfl, below_drewN HB11.out n12⟩
end Go.Proofs.Ytbngedfpojnbjab
