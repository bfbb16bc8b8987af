import Derived.Test.YtbeaefokpggmpabQtk
/-! quota: shares, plainly; the document's sum. -/
namespace Go.Proofs.Ytbeaefokpggmpab
open Go.RowKit
set_option linter.unusedVariables false

/-- The sum of the lesser ones of a level and each ask. -/
def capsum (l : List Int) (L : Int) : Int := (l.map fun a => min a L).sum
theorem capsum_nil (L : Int) : capsum [] L = 0 := rfl
theorem capsum_cons (a : Int) (l : List Int) (L : Int) : capsum (a :: l) L = min a L + capsum l L := by simp [capsum]
theorem capsum_app (l k : List Int) (L : Int) : capsum (l ++ k) L = capsum l L + capsum k L := by simp [capsum]
theorem take_snocI (l : List Int) (k : Nat) (h : k < l.length) : l.take (k + 1) = l.take k ++ [l.getD k 0] := by
  rw [List.take_succ_eq_append_getElem h]; simp [List.getD_eq_getElem?_getD, List.getElem?_eq_getElem h]
theorem capsum_snoc (l : List Int) (L : Int) (k : Nat) (h : k < l.length) : capsum (l.take (k + 1)) L = capsum (l.take k) L + min (l.getD k 0) L := by
  rw [take_snocI l k h, capsum_app]; simp [capsum]
def AskOk (l : List Int) : Prop := ∀ a ∈ l, 0 ≤ a ∧ a ≤ 1099511627776
theorem getD_mem {l : List Int} {k : Nat} (h : k < l.length) : l.getD k 0 ∈ l := by rw [List.getD_eq_getElem?_getD, List.getElem?_eq_getElem h]; exact List.getElem_mem h
theorem capsum_small {l : List Int} (h : AskOk l) {L : Int} (hL : 0 ≤ L) : ∀ k, k ≤ l.length → 0 ≤ capsum (l.take k) L ∧ capsum (l.take k) L ≤ 1099511627776 * (k : Int)
  | 0, _ => by simp [capsum]
  | k + 1, hk => by
    have h1 := capsum_small h hL k (by omega)
    have h2 := h _ (getD_mem (show k < l.length by omega))
    rw [capsum_snoc l L k (by omega)]
    omega
/-- What a slice of numbers gives, in every world behind. -/
theorem NumsAt.get {w : World} {v : Value} {l : List Int} (h : NumsAt w v l) {k : Nat} (hk : k < l.length) : ∃ b off cap, v = .slice (some ⟨b, off, none⟩) l.length cap ∧ ∀ u, Below w.heap.size w u → u.cell? ⟨b, off + k, none⟩ = some (.int .i64 (l.getD k 0)) := by
  obtain ⟨a, cap, rfl, h1, h2, h3, h4⟩ := h
  obtain ⟨b, off, rfl, h5⟩ := h4 (by rintro rfl; simp at hk)
  exact ⟨b, off, cap, rfl, fun u hu => by rw [hu.cell (p := ⟨b, off + k, none⟩) (cell_lt (h5 k hk))]; exact h5 k hk⟩
theorem NumsAt.shp {w : World} {v : Value} {l : List Int} (h : NumsAt w v l) : ∃ a cap, v = .slice a l.length cap ∧ l.length ≤ maxLen := by
  obtain ⟨a, cap, rfl, h1, h2, h3, h4⟩ := h
  exact ⟨a, cap, rfl, by omega⟩
theorem NumsAt.mem {w : World} {v : Value} {l : List Int} (h : NumsAt w v l) {k : Nat} (hk : k < l.length) : I64 (l.getD k 0) := by
  obtain ⟨a, cap, rfl, h1, h2, h3, h4⟩ := h
  exact h3 _ (getD_mem hk)

set_option maxHeartbeats 2000000 in
theorem rsumOf (v : Value) (l : List Int) (L : Int) (w : World) (h : NumsAt w v l) (ho : AskOk l) (hl : l.length ≤ 64) (h0 : 0 ≤ L) (h1 : L ≤ 1099511627777) :
    Calls Try.prog 21 #[v, .int .i64 L] w fun e w' => e = .returned (.int .i64 (capsum l L)) ∧ Below w.heap.size w w' := by
  obtain ⟨a, cap, rfl, hm⟩ := h.shp
  have HN : Hid (NumsAt w (.slice a l.length cap) l) := h
  have HO : Hid (AskOk l) := ho
  clear h ho
  go_enter Try.func21, Try.ntmps21
  go_wp2
  go_loopw [5, 6] (fun s5 s6 wr => ∃ k : Nat, k ≤ l.length ∧ s6 = .int .i64 k ∧ s5 = .int .i64 (capsum (l.take k) L) ∧ Hid (Below w.heap.size w wr)) (fun _ i _ => l.length - (intOf i).toNat)
  case atStart => exact ⟨0, by omega, rfl, rfl, Below.refl _ _⟩
  case round =>
    obtain ⟨k, hk, rfl, rfl, HB⟩ := hrel
    by_cases hA : k < l.length
    · obtain ⟨b, off, cap', e, hc⟩ := HN.out.get hA
      simp only [Value.slice.injEq] at e
      obtain ⟨rfl, -, rfl⟩ := e
      have c0 := hc wr HB.out
      have hsm := capsum_small HO.out h0 k hk
      have hxo := HO.out _ (getD_mem hA)
      have HS : Hid (capsum (l.take (k + 1)) L = capsum (l.take k) L + min (l.getD k 0) L) := capsum_snoc l L k hA
      generalize capsum (l.take k) L = S at *
      generalize l.getD k 0 = x at *
      clear hc
      obtain ⟨m, hme⟩ : ∃ m, (if L < x then L else x) = m := ⟨_, rfl⟩
      have hmm : min x L = m := by rw [← hme]; split <;> omega
      have HM : Hid ((if L < x then L else x) = m) := hme
      rw [hmm] at HS
      have hm0 : 0 ≤ m ∧ m ≤ 1099511627776 := by omega
      have hw1 : wrap64 (S + m) = S + m := by unfold wrap64; omega
      have hki : (k : Int) < (l.length : Int) := by omega
      clear hme hmm
      go_wp2_with (first | refine wpList_mnN (by with_reducible rfl) _ _ 2 2 _ _ _ (by with_reducible rfl) (by rfl) (by rfl) HM.out ?_ | fail)
      go_roundw
      case rel => exact ⟨k + 1, by omega, by go_num, by rw [HS.out], HB⟩
      case measure => simp [intOf]; omega
    · have hki : ¬ (k : Int) < (l.length : Int) := by omega
      have hke : k = l.length := by omega
      subst hke
      rw [List.take_length]
      go_wp2
      go_ret
      exact ⟨rfl, HB.out⟩
end Go.Proofs.Ytbeaefokpggmpab
