import Derived.Test.YtmcfcbonmmifeaaDoorOnC
import Derived.Deep.Quiet
import Derived.BigQuiet
/-! dedupe: place, mine. -/
namespace Go.Proofs.YtmcfcbonmmifeaaDoor
open Go.RowKit Go.Maps Plain
set_option linter.unusedVariables false
set_option linter.unusedSimpArgs false

/-- What place answers. -/
def plc (G : List Gv) (pid : Int) : Int := match lookG G pid with
  | some i => (i : Int)
  | none => -1
theorem plc_hit {G : List Gv} {pid : Int} {k : Nat} {g : Gv} (hg : G[k]? = some g) (he : g.pid = pid) (hb : ∀ j x, j < k → G[j]? = some x → x.pid ≠ pid) : plc G pid = (k : Int) := by
  have : lookG G pid = some k := by
    unfold lookG
    rw [List.findIdx?_eq_some_iff_getElem]
    obtain ⟨h1, h2⟩ := List.getElem?_eq_some_iff.mp hg
    refine ⟨h1, by simp [h2, he], fun j hj => ?_⟩
    have := hb j _ hj (List.getElem?_eq_getElem (by omega))
    simpa using this
  unfold plc
  rw [this]
theorem plc_none {G : List Gv} {pid : Int} (hb : ∀ j x, j < G.length → G[j]? = some x → x.pid ≠ pid) : plc G pid = -1 := by
  have : lookG G pid = none := by
    unfold lookG
    rw [List.findIdx?_eq_none_iff]
    intro x hx
    obtain ⟨j, hj⟩ := List.mem_iff_getElem?.mp hx
    have := hb j x (List.getElem?_eq_some_iff.mp hj).1 hj
    simpa using this
  unfold plc
  rw [this]
set_option maxHeartbeats 1000000 in
theorem placeOf (P : Nat → Prop) (v : Value) (G : List Gv) (pid : Int) (w : World) (h : GAt P w v G) (hl : G.length ≤ 64) : Calls Tryd.prog 9 #[v, .int .i64 pid] w fun e w' => e = .returned (.int .i64 (plc G pid)) ∧ w' = w := by
  obtain ⟨a, cap, rfl, hone⟩ := h.one
  have HO : Hid (∀ i g, G[i]? = some g → ∃ b a' cap', a = some ⟨b, 0, none⟩ ∧ GOne w b i g a' cap') := hone
  clear hone h
  go_enter Tryd.func9, Tryd.ntmps9
  go_wp2
  go_loopw [5] (fun i wr => ∃ (k : Nat), k ≤ G.length ∧ i = .int .i64 k ∧ wr = w ∧ Hid (∀ j x, j < k → G[j]? = some x → x.pid ≠ pid))
    (fun i _ => G.length - (intOf i).toNat)
  case atStart => exact ⟨0, Nat.zero_le _, rfl, rfl, fun j x hj => absurd hj (Nat.not_lt_zero _)⟩
  case round =>
    obtain ⟨k, hk, rfl, rfl, HB⟩ := hrel
    by_cases hlt : k < G.length
    · obtain ⟨g, hg⟩ : ∃ g, G[k]? = some g := ⟨G[k], by simp [hlt]⟩
      obtain ⟨b, a', cap', rfl, hc⟩ := HO.out k g hg
      have hc0 := hc.c0
      have HG : Hid (G[k]? = some g) := hg
      clear hc hg
      have hki : (k : Int) < (G.length : Int) := by omega
      by_cases he : g.pid = pid
      · have HP : Hid (plc G pid = (k : Int)) := plc_hit HG.out he HB.out
        have he' : (g.pid == pid) = true := by simpa using he
        go_wp2
        go_ret
        exact ⟨by rw [HP.out]; rfl, rfl⟩
      · have he' : (g.pid == pid) = false := by simpa using he
        go_wp2
        go_roundw
        case rel =>
          refine ⟨k + 1, by omega, by go_num, by first | rfl | trivial, fun j x hj hx => ?_⟩
          by_cases hjk : j = k
          · subst hjk
            have := HG.out
            rw [this] at hx
            cases hx
            exact he
          · exact HB.out j x (by omega) hx
        case measure => simp [intOf]; omega
    · obtain rfl : k = G.length := by omega
      have HP : Hid (plc G pid = -1) := plc_none HB.out
      go_wp2
      go_ret
      exact ⟨by rw [HP.out]; rfl, rfl⟩
theorem mineOf (p q : Int) (w : World) : Calls Tryd.prog 13 #[.agg #[.int .i64 p, .int .i64 q]] w fun e w' => e = .returned (.bool (okNum p q)) ∧ Below w.heap.size w w' := by
  have HB : Hid (∀ o, Below w.heap.size w (w.alloc o)) := fun o => (Below.refl _ w).alloc (Nat.le_refl _) o
  have e : okNum p q = (decide (1 ≤ p) && decide (p < 4294967296) && decide (1 ≤ q) && decide (q < 1099511627776)) := by
    unfold okNum
    have h1 : decide (p ≤ 4294967295) = decide (p < 4294967296) := by by_cases h : p ≤ 4294967295 <;> simp [h] <;> omega
    have h2 : decide (q ≤ 1099511627775) = decide (q < 1099511627776) := by by_cases h : q ≤ 1099511627775 <;> simp [h] <;> omega
    rw [h1, h2]
  rw [e]
  by_cases h1 : 1 ≤ p
  · by_cases h2 : p < 4294967296
    · by_cases h3 : 1 ≤ q
      · by_cases h4 : q < 1099511627776
        all_goals
          go_enter Tryd.func13, Tryd.ntmps13
          go_wp2
          go_ret
          exact ⟨by simp [h1, h2, h3, h4], HB.out _⟩
      · go_enter Tryd.func13, Tryd.ntmps13
        go_wp2
        go_ret
        exact ⟨by simp [h1, h2, h3]; try omega, HB.out _⟩
    · go_enter Tryd.func13, Tryd.ntmps13
      go_wp2
      go_ret
      exact ⟨by simp [h1, h2]; try omega, HB.out _⟩
  · go_enter Tryd.func13, Tryd.ntmps13
    go_wp2
    go_ret
    exact ⟨by simp [h1]; try omega, HB.out _⟩
end Go.Proofs.YtmcfcbonmmifeaaDoor
