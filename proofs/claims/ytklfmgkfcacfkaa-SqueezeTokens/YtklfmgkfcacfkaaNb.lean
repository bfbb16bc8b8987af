import Derived.Test.YtklfmgkfcacfkaaNa
/-! The document's numberAt: the walk. -/
namespace Go.Proofs.Ytklfmgkfcacfkaa
open Go.RowKit Plain
set_option linter.unusedVariables false
set_option linter.unusedSimpArgs false

theorem retN {a b c d : Int} {x y : Bool} (h1 : a = c) (h2 : b = d) (h3 : x = y) : Ending.returned (.tuple #[.int .i64 a, .int .i64 b, .bool x]) = .returned (.tuple #[.int .i64 c, .int .i64 d, .bool y]) := by rw [h1, h2, h3]
def NumPost (w : World) (l : List Nat) (p : Nat) : Ending → World → Prop := fun e w' => (∃ m, w' = w.drewN m) ∧ ((∃ v u : Nat, e = .returned (.tuple #[.int .i64 (v : Int), .int .i64 ((p + u : Nat) : Int), .bool true]) ∧ v < 2097152 ∧ Num3 (l.drop p) v u) ∨ (e = .returned (.tuple #[.int .i64 0, .int .i64 (p : Int), .bool false]) ∧ NoNum (l.drop p)))

theorem drop_cons {l : List Nat} {p : Nat} (h : p < l.length) : l.drop p = l.getD p 0 :: l.drop (p + 1) := by
  rw [List.drop_eq_getElem_cons h]
  simp [h]
theorem nn_of {R : List Nat} {x : Nat} (h : rd R = (0, 0, x)) (hx : x ≠ 0) : NoNum R := by left; rw [h]; exact hx

set_option maxHeartbeats 1000000 in
set_option maxRecDepth 1000000 in
theorem refNumberAt (vb : Value) (l : List Nat) (p : Nat) (w : World) (h : BytesAt w vb l) (hp : p ≤ l.length) (hl : l.length ≤ 140737488351232) : Calls Try.prog 46 #[vb, .int .i64 p] w (NumPost w l p) := by
  obtain ⟨a, cap, rfl, hlc, hcm, hby, hcells⟩ := h
  unfold maxLen at hcm
  have HC : Hid (l ≠ [] → ∃ b off, a = some ⟨b, off, none⟩ ∧ ∀ j, j < l.length → w.cell? ⟨b, off + j, none⟩ = some (.int .u8 ((l.getD j 0 : Nat) : Int))) := hcells
  have HBY : Hid (∀ c ∈ l, c < 256) := hby
  clear hcells hby
  go_enter Try.func46, Try.ntmps46
  go_wp2
  go_loopw [7, 8, 9] (fun s7 s8 s9 w' => ∃ k v u m : Nat, w' = w.drewN m ∧ s7 = .int .i64 v ∧ s8 = .int .i64 u ∧ s9 = .int .i64 k ∧ Hid (rd (l.drop p) = rdGo (l.drop (p + k)) k v) ∧ ((k = 0 ∧ u = 1 ∧ v = 0) ∨ (k = 1 ∧ u = 128 ∧ v < 128) ∨ (k = 2 ∧ u = 16384 ∧ v < 16384) ∨ (k = 3 ∧ u = 2097152 ∧ v < 2097152))) (fun _ _ s _ => 3 - (intOf s).toNat)
  case atStart => exact ⟨0, 0, 1, 0, rfl, rfl, rfl, rfl, rfl, .inl ⟨rfl, rfl, rfl⟩⟩
  case round =>
    obtain ⟨k, v, u, m, rfl, rfl, rfl, rfl, HR, hcase⟩ := hrel
    rcases hcase with ⟨rfl, rfl, hv⟩ | ⟨rfl, rfl, hv⟩ | ⟨rfl, rfl, hv⟩ | ⟨rfl, rfl, hv⟩
    · by_cases hlt : p + 0 < l.length
      · obtain ⟨b, off, rfl, hc⟩ := HC.out (by rintro rfl; simp at hlt)
        have hck := hc (p + 0) hlt
        have HD : Hid (rd (l.drop p) = rdGo (l.getD (p + 0) 0 :: l.drop (p + 1)) 0 v) := by
          unfold Hid; rw [HR.out, drop_cons hlt]
        have hy : l.getD (p + 0) 0 < 256 := HBY.out _ (by rw [List.getD_eq_getElem?_getD, List.getElem?_eq_getElem hlt]; exact List.getElem_mem _)
        generalize l.getD (p + 0) 0 = c at hck HD hy
        obtain ⟨q, hq⟩ : ∃ q, p + 0 = q := ⟨_, rfl⟩
        have HQ : Hid (p + 0 = q) := hq
        rw [hq] at hck hlt
        rw [Nat.add_zero] at hq
        subst hq
        clear hc HR
        by_cases h128 : c < 128
        · subst hv
          have HN : Hid (Num3 (l.drop p) (0 + c * 1) 1) := ⟨by rw [HD.out, rdGo, if_neg (by omega), if_pos h128, Nat.mod_eq_of_lt h128], by omega, by omega⟩
          have hb : 0 + c * 1 < 2097152 := by omega
          have HV : Hid (0 + c * 1 < 2097152) := hb
          have HE : Hid (((0 + c * 1 : Nat) : Int) = (0 : Int) + (c : Int) * 1) := by unfold Hid; omega
          clear HD hb
          go_wp2
          all_goals go_ret3
          all_goals exact ⟨⟨_, rfl⟩, .inl ⟨0 + c * 1, 1, retN (by have := HE.out; omega) (by have := HQ.out; omega) rfl, HV.out, HN.out⟩⟩
        · have HN : Hid (rd (l.drop p) = rdGo (l.drop (p + 1)) 1 (v + (c - 128) * 1)) := by
            unfold Hid
            rw [HD.out, rdGo, if_neg (by omega), if_neg h128, show c % 128 = c - 128 by omega]
          have HE : Hid (((v + (c - 128) * 1 : Nat) : Int) = (v : Int) + ((c : Int) - 128) * 1) := by unfold Hid; omega
          have hb : v + (c - 128) * 1 < 128 := by omega
          have HV : Hid (v + (c - 128) * 1 < 128) := hb
          clear HD hb
          subst hv
          go_wp2
          go_roundw
          case rel => exact ⟨1, _, 128, _, rfl, by first | rfl | (rw [HE.out]; go_num) | (rw [HE.out]) | (have := HE.out; congr 1; omega), by first | rfl | go_num, by first | rfl | go_num, HN.out, .inr (.inl ⟨rfl, rfl, HV.out⟩)⟩
          case measure => simp [intOf]
      · have HN : Hid (NoNum (l.drop p)) := nn_of (x := 10) (by rw [HR.out, List.drop_eq_nil_of_le (by omega)]; rfl) (by decide)
        have hge : (p : Int) ≥ (l.length : Int) := by omega
        clear HR HC
        go_wp2
        go_ret3
        exact ⟨⟨_, rfl⟩, .inr ⟨rfl, HN.out⟩⟩
    · by_cases hlt : p + 1 < l.length
      · obtain ⟨b, off, rfl, hc⟩ := HC.out (by rintro rfl; simp at hlt)
        have hck := hc (p + 1) hlt
        have HD : Hid (rd (l.drop p) = rdGo (l.getD (p + 1) 0 :: l.drop (p + 2)) 1 v) := by
          unfold Hid; rw [HR.out, drop_cons hlt]
        have hy : l.getD (p + 1) 0 < 256 := HBY.out _ (by rw [List.getD_eq_getElem?_getD, List.getElem?_eq_getElem hlt]; exact List.getElem_mem _)
        generalize l.getD (p + 1) 0 = c at hck HD hy
        obtain ⟨q, hq⟩ : ∃ q, p + 1 = q := ⟨_, rfl⟩
        have HQ : Hid (p + 1 = q) := hq
        rw [hq] at hck hlt
        have eq : (p : Int) + 1 = (q : Int) := by omega
        clear hq
        clear hc HR
        by_cases h128 : c < 128
        · by_cases hz : c = 0
          · have HN : Hid (NoNum (l.drop p)) := nn_of (x := 11) (by rw [HD.out, rdGo, if_pos (.inl ⟨by omega, hz⟩)]) (by decide)
            subst hz
            clear HD
            go_wp2
            go_ret3
            exact ⟨⟨_, rfl⟩, .inr ⟨rfl, HN.out⟩⟩
          have hz' : ((c : Int) == 0) = false := by simp; omega
          have HN : Hid (Num3 (l.drop p) (v + c * 128) 2) := ⟨by rw [HD.out, rdGo, if_neg (by omega), if_pos h128, Nat.mod_eq_of_lt h128], by omega, by omega⟩
          have hb : v + c * 128 < 2097152 := by omega
          have HV : Hid (v + c * 128 < 2097152) := hb
          have HE : Hid (((v + c * 128 : Nat) : Int) = (v : Int) + (c : Int) * 128) := by unfold Hid; omega
          clear HD hb
          go_wp2
          all_goals go_ret3
          all_goals exact ⟨⟨_, rfl⟩, .inl ⟨v + c * 128, 2, retN (by have := HE.out; omega) (by have := HQ.out; omega) rfl, HV.out, HN.out⟩⟩
        · have HN : Hid (rd (l.drop p) = rdGo (l.drop (p + 2)) 2 (v + (c - 128) * 128)) := by
            unfold Hid
            rw [HD.out, rdGo, if_neg (by omega), if_neg h128, show c % 128 = c - 128 by omega]
          have HE : Hid (((v + (c - 128) * 128 : Nat) : Int) = (v : Int) + ((c : Int) - 128) * 128) := by unfold Hid; omega
          have hb : v + (c - 128) * 128 < 16384 := by omega
          have HV : Hid (v + (c - 128) * 128 < 16384) := hb
          clear HD hb
          skip
          go_wp2
          go_roundw
          case rel => exact ⟨2, _, 16384, _, rfl, by first | rfl | (rw [HE.out]; go_num) | (rw [HE.out]) | (have := HE.out; congr 1; omega), by first | rfl | go_num, by first | rfl | go_num, HN.out, .inr (.inr (.inl ⟨rfl, rfl, HV.out⟩))⟩
          case measure => simp [intOf]
      · have HN : Hid (NoNum (l.drop p)) := nn_of (x := 10) (by rw [HR.out, List.drop_eq_nil_of_le (by omega)]; rfl) (by decide)
        have hge : (p : Int) + 1 ≥ (l.length : Int) := by omega
        clear HR HC
        go_wp2
        go_ret3
        exact ⟨⟨_, rfl⟩, .inr ⟨rfl, HN.out⟩⟩
    · by_cases hlt : p + 2 < l.length
      · obtain ⟨b, off, rfl, hc⟩ := HC.out (by rintro rfl; simp at hlt)
        have hck := hc (p + 2) hlt
        have HD : Hid (rd (l.drop p) = rdGo (l.getD (p + 2) 0 :: l.drop (p + 3)) 2 v) := by
          unfold Hid; rw [HR.out, drop_cons hlt]
        have hy : l.getD (p + 2) 0 < 256 := HBY.out _ (by rw [List.getD_eq_getElem?_getD, List.getElem?_eq_getElem hlt]; exact List.getElem_mem _)
        generalize l.getD (p + 2) 0 = c at hck HD hy
        obtain ⟨q, hq⟩ : ∃ q, p + 2 = q := ⟨_, rfl⟩
        have HQ : Hid (p + 2 = q) := hq
        rw [hq] at hck hlt
        have eq : (p : Int) + 2 = (q : Int) := by omega
        clear hq
        clear hc HR
        by_cases h128 : c < 128
        · by_cases hz : c = 0
          · have HN : Hid (NoNum (l.drop p)) := nn_of (x := 11) (by rw [HD.out, rdGo, if_pos (.inl ⟨by omega, hz⟩)]) (by decide)
            subst hz
            clear HD
            go_wp2
            go_ret3
            exact ⟨⟨_, rfl⟩, .inr ⟨rfl, HN.out⟩⟩
          have hz' : ((c : Int) == 0) = false := by simp; omega
          have HN : Hid (Num3 (l.drop p) (v + c * 16384) 3) := ⟨by rw [HD.out, rdGo, if_neg (by omega), if_pos h128, Nat.mod_eq_of_lt h128], by omega, by omega⟩
          have hb : v + c * 16384 < 2097152 := by omega
          have HV : Hid (v + c * 16384 < 2097152) := hb
          have HE : Hid (((v + c * 16384 : Nat) : Int) = (v : Int) + (c : Int) * 16384) := by unfold Hid; omega
          clear HD hb
          go_wp2
          all_goals go_ret3
          all_goals exact ⟨⟨_, rfl⟩, .inl ⟨v + c * 16384, 3, retN (by have := HE.out; omega) (by have := HQ.out; omega) rfl, HV.out, HN.out⟩⟩
        · have HN : Hid (rd (l.drop p) = rdGo (l.drop (p + 3)) 3 (v + (c - 128) * 16384)) := by
            unfold Hid
            rw [HD.out, rdGo, if_neg (by omega), if_neg h128, show c % 128 = c - 128 by omega]
          have HE : Hid (((v + (c - 128) * 16384 : Nat) : Int) = (v : Int) + ((c : Int) - 128) * 16384) := by unfold Hid; omega
          have hb : v + (c - 128) * 16384 < 2097152 := by omega
          have HV : Hid (v + (c - 128) * 16384 < 2097152) := hb
          clear HD hb
          skip
          go_wp2
          go_roundw
          case rel => exact ⟨3, _, 2097152, _, rfl, by first | rfl | (rw [HE.out]; go_num) | (rw [HE.out]) | (have := HE.out; congr 1; omega), by first | rfl | go_num, by first | rfl | go_num, HN.out, .inr (.inr (.inr ⟨rfl, rfl, HV.out⟩))⟩
          case measure => simp [intOf]
      · have HN : Hid (NoNum (l.drop p)) := nn_of (x := 10) (by rw [HR.out, List.drop_eq_nil_of_le (by omega)]; rfl) (by decide)
        have hge : (p : Int) + 2 ≥ (l.length : Int) := by omega
        clear HR HC
        go_wp2
        go_ret3
        exact ⟨⟨_, rfl⟩, .inr ⟨rfl, HN.out⟩⟩
    · have HN : Hid (NoNum (l.drop p)) := by
        unfold Hid NoNum
        rw [HR.out]
        by_cases h0 : (rdGo (l.drop (p + 3)) 3 v).2.2 = 0
        · right; have := rdGo_ge _ _ _ h0; omega
        · exact .inl h0
      clear HR HC
      go_wp2
      go_ret3
      exact ⟨⟨_, rfl⟩, .inr ⟨rfl, HN.out⟩⟩
end Go.Proofs.Ytklfmgkfcacfkaa
