import Derived.Test.YtklfmgkfcacfkaaRx2
import Derived.BigQuiet
/-! The laws' own helpers of bytes. -/
namespace Go.Proofs.Ytklfmgkfcacfkaa
open Go.RowKit Plain
set_option linter.unusedVariables false
set_option linter.unusedSimpArgs false

theorem Own.fz {w : World} {g n cap : Nat} {l : List Nat} (h : Own w (.slice (some ⟨g, 0, none⟩) n cap) l (some g)) {j : Nat} (hj : j < l.length) : w.frozen? ⟨g, j, none⟩ = false := by
  rcases h.2 with ⟨e, _⟩ | ⟨g', cap', e, e2, hg, h1, h2, h3, h4, h5⟩
  · simp at e
  · simp at e; subst e
    exact h3 j (by omega)

set_option maxHeartbeats 1000000 in
/-- Bytes are written over the first bytes of a row. -/
theorem layAny (g n cap : Nat) (vb : Value) (l m : List Nat) (w0 w : World) (hm : l.length ≤ m.length) (ho : Own w (.slice (some ⟨g, 0, none⟩) m.length cap) m (some g)) (hb : BytesAt w0 vb l) (hbl : Below w0.heap.size w0 w) (hg : w0.heap.size ≤ g) (hn : l.length ≤ n) (hnc : n ≤ cap) :
    Calls Try.prog 44 #[.slice (some ⟨g, 0, none⟩) n cap, vb] w fun e w' => e = .returned (.tuple #[]) ∧ Own w' (.slice (some ⟨g, 0, none⟩) m.length cap) (l ++ m.drop l.length) (some g) ∧ w.grownBy w' (some g) := by
  have HV : Hid (BytesAt w0 vb l) := hb
  have HO : Hid (Own w (.slice (some ⟨g, 0, none⟩) m.length cap) m (some g)) := ho
  have HB0 : Hid (Below w0.heap.size w0 w) := hbl
  obtain ⟨a, capb, rfl, hlc, hcm, hby, hcells⟩ := hb
  unfold maxLen at hcm
  have HC : Hid (l ≠ [] → ∃ b off, a = some ⟨b, off, none⟩ ∧ ∀ j, j < l.length → w0.cell? ⟨b, off + j, none⟩ = some (.int .u8 ((l.getD j 0 : Nat) : Int))) := hcells
  have HBY : Hid (∀ c ∈ l, c < 256) := hby
  have HH : Hid (∀ k, half (l ++ m.drop l.length) m k = (l ++ m.drop l.length).take k ++ m.drop k) := fun k => rfl
  obtain ⟨F, hF⟩ : ∃ F, l ++ m.drop l.length = F := ⟨_, rfl⟩
  have HFL : Hid (F.length = m.length) := by unfold Hid; rw [← hF]; simp; omega
  have HFG : Hid (∀ k, k < l.length → F.getD k 0 = l.getD k 0) := fun k hk => by rw [← hF]; simp [List.getElem?_append_left hk]
  have HFE : Hid (half F m l.length = F) := by unfold Hid half; rw [← hF]; simp
  rw [hF]
  clear hcells hby ho hbl hF HH
  go_enter Try.func44, Try.ntmps44
  go_wp2
  go_loopw [4] (fun s wr => ∃ k : Nat, s = .int .i64 k ∧ k ≤ l.length ∧ Own wr (.slice (some ⟨g, 0, none⟩) m.length cap) (half F m k) (some g) ∧ w.grownBy wr (some g)) (fun s _ => l.length - (intOf s).toNat)
  case atStart => exact ⟨0, rfl, by omega, by rw [half_zero]; exact HO.out, below_grow (Below.refl _ _) _⟩
  case round =>
    obtain ⟨k, rfl, hk, hown, hgr⟩ := hrel
    have HK : Hid (Own wr (.slice (some ⟨g, 0, none⟩) m.length cap) (half F m k) (some g)) := hown
    have HG : Hid (w.grownBy wr (some g)) := hgr
    clear hown hgr
    by_cases hlt : k < l.length
    · obtain ⟨b, off, rfl, hc⟩ := HC.out (by rintro rfl; simp at hlt)
      have hck := hc k hlt
      have hbl2 := cell_lt hck
      simp only at hbl2
      have hbw : Below w0.heap.size w0 wr := HB0.out.trans (grow_below HG.out HB0.out.size (fun q hq => by simp at hq; omega))
      have hck' : wr.cell? ⟨b, off + k, none⟩ = some (.int .u8 ((l.getD k 0 : Nat) : Int)) := by rw [hbw.cell (p := ⟨b, off + k, none⟩) hbl2]; exact hck
      have hhl : (half F m k).length = m.length := by rw [half_len HFL.out]; exact HFL.out
      obtain ⟨g', e1, e2, hold⟩ := HK.out.get (j := k) (by rw [hhl]; omega)
      simp at e1; subst e1
      have hfz := HK.out.fz (j := k) (by rw [hhl]; omega)
      have HN : Hid (Own (wr.setCell ⟨g, k, none⟩ (.int .u8 ((l.getD k 0 : Nat) : Int))) (.slice (some ⟨g, 0, none⟩) m.length cap) (half F m (k + 1)) (some g)) := by
        have h1 := HK.out.set k (l.getD k 0) (by rw [hhl]; omega) (HBY.out _ (by rw [List.getD_eq_getElem?_getD, List.getElem?_eq_getElem hlt]; exact List.getElem_mem _))
        rw [← HFG.out k hlt, half_set HFL.out k (by rw [HFL.out]; omega), HFG.out k hlt] at h1
        exact h1
      have HG2 : Hid (w.grownBy (wr.setCell ⟨g, k, none⟩ (.int .u8 ((l.getD k 0 : Nat) : Int))) (some g)) := grow_trans HG.out (grow_setCells wr g k [.int .u8 ((l.getD k 0 : Nat) : Int)]) (.inl rfl)
      have hkn : k < n := by omega
      generalize l.getD k 0 = y at hck' HN HG2
      generalize (half F m k).getD k 0 = z at hold
      clear hc hck hbw e2
      go_wp2
      go_roundw
      case rel => exact ⟨k + 1, by go_num, by omega, HN.out, HG2.out⟩
      case measure => simp [intOf]; omega
    · obtain rfl : k = l.length := by omega
      have HF2 : Hid (Own wr (.slice (some ⟨g, 0, none⟩) m.length cap) F (some g)) := by have := HK.out; rwa [HFE.out] at this
      clear HC
      go_wp2
      go_end0
      exact ⟨rfl, HF2.out, HG.out⟩
end Go.Proofs.Ytklfmgkfcacfkaa
