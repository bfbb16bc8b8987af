import Derived.Test.YtklfmgkfcacfkaaOwn
import Derived.Test.YtklfmgkfcacfkaaSq
namespace Go.Proofs.Ytklfmgkfcacfkaa
open Go.RowKit Plain
set_option linter.unusedVariables false

theorem ret1 {a b : Int} (h : a = b) : Ending.returned (.int .i64 a) = .returned (.int .i64 b) := by rw [h]

set_option maxHeartbeats 400000 in
set_option maxRecDepth 1000000 in
theorem repeated (v : Value) (l : List Nat) (i d : Nat) (w : World) (h : BytesAt w v l) (hi : i ≤ l.length) (hd0 : 1 ≤ d) (hd : d ≤ i) :
    Calls Try.prog 51 #[v, .int .i64 i, .int .i64 d] w fun e w' => ∃ n q : Nat, IsLen l i d (l.length - i) n ∧ e = .returned (.int .i64 n) ∧ w' = w.drewN q := by
  obtain ⟨a, cap, rfl, hlc, hcm, hby, hcells⟩ := h
  unfold maxLen at hcm
  obtain ⟨b, off, rfl, hc⟩ := hcells (by rintro rfl; simp at hi; omega)
  clear hcells hby
  go_enter Try.func51, Try.ntmps51
  go_wp2
  go_loopw [7] (fun s wx => ∃ k q : Nat, wx = w.drewN q ∧ i + k ≤ l.length ∧ s = .int .i64 k ∧ ∀ j, j < k → Eqv l i d j) (fun s _ => l.length - (intOf s).toNat)
  case atStart => exact ⟨0, 0, rfl, by omega, rfl, fun j hj => by omega⟩
  case round =>
    obtain ⟨k, q, rfl, hk, rfl, ht⟩ := hrel
    have HT : Hid (∀ j, j < k → Eqv l i d j) := ht
    clear ht
    by_cases hlt : i + k < l.length
    · have hcell := hc (i + k) hlt
      have hcell' := hc (i + k - d) (by omega)
      have HE : Hid (Eqv l i d k ↔ l.getD (i + k) 0 = l.getD (i + k - d) 0) := Iff.rfl
      obtain ⟨x, hx⟩ : ∃ x, l.getD (i + k) 0 = x := ⟨_, rfl⟩
      obtain ⟨y, hy⟩ : ∃ y, l.getD (i + k - d) 0 = y := ⟨_, rfl⟩
      rw [hx] at hcell
      rw [hy] at hcell'
      have HE2 : Hid (Eqv l i d k ↔ x = y) := by unfold Hid; rw [HE.out, hx, hy]
      have hdt : decide ((i : Int) + (k : Int) < (l.length : Int)) = true := by simp; omega
      have hn1 : ((i : Int) + (k : Int)).toNat = i + k := by omega
      have hn2 : ((i : Int) + (k : Int) - (d : Int)).toNat = i + k - d := by omega
      clear hx hy HE hc
      by_cases hxy : x = y
      · have h2 : ((x : Int) == (y : Int)) = true := by simp; omega
        have HS : Hid (∀ j, j < k + 1 → Eqv l i d j) := fun j hj => by
          by_cases z : j = k
          · subst z; exact HE2.out.mpr hxy
          · exact HT.out j (by omega)
        clear HT HE2 hxy
        go_wp2
        go_quiet (fail)
        go_wp2
        go_roundw
        case rel => exact ⟨k + 1, _, rfl, by omega, by go_num, HS.out⟩
        case measure => simp [intOf]; omega
      · have h2 : ((x : Int) == (y : Int)) = false := by simp; omega
        have HS : Hid (¬ Eqv l i d k) := fun e => hxy (HE2.out.mp e)
        clear HE2 hxy
        go_wp2
        go_quiet (fail)
        go_wp2
        go_ret
        exact ⟨k, _, ⟨by omega, HT.out, .inr HS.out⟩, rfl, World.drewN_drewN _ _ _⟩
    · have hd : decide ((i : Int) + (k : Int) < (l.length : Int)) = false := by simp; omega
      go_wp2
      go_quiet (fail)
      go_wp2
      go_ret
      exact ⟨k, _, ⟨by omega, HT.out, .inl (by omega)⟩, rfl, World.drewN_drewN _ _ _⟩

set_option maxHeartbeats 400000 in
set_option maxRecDepth 1000000 in
theorem matchAt (v : Value) (l : List Nat) (i d : Nat) (w : World) (h : BytesAt w v l) (hi : i ≤ l.length) (hd0 : 1 ≤ d) (hd : d ≤ i) :
    Calls Try.prog 11 #[v, .int .i64 i, .int .i64 d] w fun e w' => ∃ n q : Nat, IsLen l i d (most l i) n ∧ e = .returned (.int .i64 n) ∧ w' = w.drewN q := by
  obtain ⟨a, cap, rfl, hlc, hcm, hby, hcells⟩ := h
  unfold maxLen at hcm
  obtain ⟨b, off, rfl, hc⟩ := hcells (by rintro rfl; simp at hi; omega)
  clear hcells hby
  go_enter Try.func11, Try.ntmps11
  go_wp2
  go_loopw [7] (fun s wx => ∃ k q : Nat, wx = w.drewN q ∧ i + k ≤ l.length ∧ k ≤ 258 ∧ s = .int .i64 k ∧ ∀ j, j < k → Eqv l i d j) (fun s _ => l.length - (intOf s).toNat)
  case atStart => exact ⟨0, 0, rfl, by omega, by omega, rfl, fun j hj => by omega⟩
  case round =>
    obtain ⟨k, q, rfl, hk, hk2, rfl, ht⟩ := hrel
    have HT : Hid (∀ j, j < k → Eqv l i d j) := ht
    clear ht
    by_cases hlt : i + k < l.length ∧ k < 258
    · obtain ⟨hlt, hl2⟩ := hlt
      have hdm : decide ((k : Int) < 258) = true := by simp; omega
      have hcell := hc (i + k) hlt
      have hcell' := hc (i + k - d) (by omega)
      have HE : Hid (Eqv l i d k ↔ l.getD (i + k) 0 = l.getD (i + k - d) 0) := Iff.rfl
      obtain ⟨x, hx⟩ : ∃ x, l.getD (i + k) 0 = x := ⟨_, rfl⟩
      obtain ⟨y, hy⟩ : ∃ y, l.getD (i + k - d) 0 = y := ⟨_, rfl⟩
      rw [hx] at hcell
      rw [hy] at hcell'
      have HE2 : Hid (Eqv l i d k ↔ x = y) := by unfold Hid; rw [HE.out, hx, hy]
      have hdt : decide ((i : Int) + (k : Int) < (l.length : Int)) = true := by simp; omega
      have hn1 : ((i : Int) + (k : Int)).toNat = i + k := by omega
      have hn2 : ((i : Int) + (k : Int) - (d : Int)).toNat = i + k - d := by omega
      clear hx hy HE hc
      by_cases hxy : x = y
      · have h2 : ((x : Int) == (y : Int)) = true := by simp; omega
        have HS : Hid (∀ j, j < k + 1 → Eqv l i d j) := fun j hj => by
          by_cases z : j = k
          · subst z; exact HE2.out.mpr hxy
          · exact HT.out j (by omega)
        clear HT HE2 hxy
        go_wp2
        go_quiet (fail)
        go_wp2
        go_roundw
        case rel => exact ⟨k + 1, _, rfl, by omega, by omega, by go_num, HS.out⟩
        case measure => simp [intOf]; omega
      · have h2 : ((x : Int) == (y : Int)) = false := by simp; omega
        have HS : Hid (¬ Eqv l i d k) := fun e => hxy (HE2.out.mp e)
        clear HE2 hxy
        go_wp2
        go_quiet (fail)
        go_wp2
        go_ret
        exact ⟨k, _, ⟨by unfold most; omega, HT.out, .inr HS.out⟩, rfl, World.drewN_drewN _ _ _⟩
    · by_cases h258 : k < 258
      · have hd : decide ((i : Int) + (k : Int) < (l.length : Int)) = false := by simp; omega
        have hdm : decide ((k : Int) < 258) = true := by simp; omega
        go_wp2
        go_quiet (fail)
        go_wp2
        go_ret
        exact ⟨k, _, ⟨by unfold most; omega, HT.out, .inl (by unfold most; omega)⟩, rfl, World.drewN_drewN _ _ _⟩
      · have hdm : decide ((k : Int) < 258) = false := by simp; omega
        go_wp2
        go_quiet (fail)
        go_wp2
        go_ret
        exact ⟨k, _, ⟨by unfold most; omega, HT.out, .inl (by unfold most; omega)⟩, rfl, World.drewN_drewN _ _ _⟩

theorem retU {a b : Int} (h : a = b) : Ending.returned (.int .u64 a) = .returned (.int .u64 b) := by rw [h]

theorem or_low (v c : Nat) (hv : v < 1099511627776) (hc : c < 256) : bits .or .u64 ((v : Int) * 256) (c : Int) = ((v * 256 + c : Nat) : Int) := by
  rw [show ((v : Int) * 256) = ((v * 256 : Nat) : Int) by simp, u64_or_nat _ c (by omega) (by omega)]
  rw [show v * 256 = v <<< 8 by rw [Nat.shiftLeft_eq], ← Nat.shiftLeft_add_eq_or_of_lt (by omega), Nat.shiftLeft_eq]

set_option maxHeartbeats 400000 in
set_option maxRecDepth 1000000 in
theorem numberOf (v : Value) (l : List Nat) (w : World) (h : BytesAt w v l) (h5 : 5 ≤ l.length) :
    Calls Try.prog 50 #[v] w fun e w' => e = .returned (.int .u64 (hsh l)) ∧ w' = w := by
  obtain ⟨a, cap, rfl, hlc, hcm, hby, hcells⟩ := h
  unfold maxLen at hcm
  obtain ⟨b, off, rfl, hc⟩ := hcells (by rintro rfl; simp at h5)
  clear hcells
  have HB : Hid (∀ c ∈ l, c < 256) := hby
  clear hby
  go_enter Try.func50, Try.ntmps50
  go_wp2
  go_loop [3, 9] (fun x s => ∃ k : Nat, k ≤ 5 ∧ s = .int .i64 k ∧ x = .int .u64 (hv (l.take k))) (fun _ s => 5 - (intOf s).toNat)
  case atStart => exact ⟨0, by omega, rfl, rfl⟩
  case round =>
    obtain ⟨k, hk, rfl, rfl⟩ := hrel
    by_cases hlt : k < 5
    · have hcell := hc k (by omega)
      obtain ⟨c, hcv⟩ : ∃ c, l.getD k 0 = c := ⟨_, rfl⟩
      have hc256 : c < 256 := HB.out c (by rw [← hcv, List.getD_eq_getElem?_getD, List.getElem?_eq_getElem (by omega)]; simp)
      rw [hcv] at hcell
      have HV : Hid (hv (l.take (k + 1)) = hv (l.take k) * 256 + c) := by unfold Hid; rw [take_snoc (by omega), hv_snoc, hcv]
      have hlv : hv (l.take k) < 1099511627776 := by
        have h1 := hv_lt (l.take k) fun c hc => HB.out c (List.mem_of_mem_take hc)
        have h2 : (256 : Nat) ^ (l.take k).length ≤ 256 ^ 5 := Nat.pow_le_pow_right (by decide) (by rw [List.length_take]; omega)
        have h3 : (256 : Nat) ^ 5 = 1099511627776 := by decide
        omega
      obtain ⟨V, hV⟩ : ∃ V, hv (l.take k) = V := ⟨_, rfl⟩
      rw [hV] at hlv HV ⊢
      have HO : Hid (bits .or .u64 ((V : Int) * 256) (c : Int) = ((V * 256 + c : Nat) : Int)) := or_low V c hlv hc256
      clear hV hcv hc
      go_wp2
      go_round
      case rel => exact ⟨k + 1, by omega, by go_num, by rw [HV.out, HO.out]⟩
      case measure => simp [intOf]; omega
    · obtain rfl : k = 5 := by omega
      obtain ⟨V, hV⟩ : ∃ V, hv (l.take 5) = V := ⟨_, rfl⟩
      have HH : Hid (hsh l = V * 11400714819323198485 % 18446744073709551616 / 9007199254740992) := by unfold Hid hsh; rw [hV]
      rw [hV]
      clear hV hc
      go_wp2
      go_ret
      exact ⟨retU (by rw [HH.out, IntKind.wrap_u64]; omega), rfl⟩

end Go.Proofs.Ytklfmgkfcacfkaa
