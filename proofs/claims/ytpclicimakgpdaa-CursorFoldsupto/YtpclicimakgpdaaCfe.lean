import Derived.Test.YtpclicimakgpdaaCfc
/-! cursor: the document's without. -/
namespace Go.Proofs.Ytpclicimakgpdaa
open Go.RowKit Go.Maps Plain
set_option linter.unusedVariables false
set_option linter.unusedSimpArgs false

theorem keys_ne {a b : ByteArray} (h : ¬ a = b) : (a.toList == b.toList) = false := by
  rw [beq_eq_false_iff_ne, ByteArray.toList_eq, ByteArray.toList_eq]
  exact fun e => h (WideShapes.bytes_inj e)
theorem delP_snoc (L : List Pp) (k : List UInt8) (n : Nat) (h : n < L.length) : delP (L.take (n + 1)) k = if kb (L.getD n Pp.zero).key = k then delP (L.take n) k else delP (L.take n) k ++ [L.getD n Pp.zero] := by
  rw [take_succ' L n Pp.zero h]
  unfold delP
  rw [List.filter_append]
  by_cases e : kb (L.getD n Pp.zero).key = k
  · rw [if_pos e]; simp only [List.filter_cons, List.filter_nil, e]; simp
  · rw [if_neg e]; simp only [List.filter_cons, List.filter_nil, beq_eq_false_iff_ne.mpr e]; simp
set_option maxHeartbeats 4000000 in
theorem withoutOf (v : Value) (L : List Pp) (key : ByteArray) (w : World) (h : PpsAt w v L) : Calls Try.prog 12 #[v, .string key] w fun e w' => ∃ z r, e = .returned z ∧ PpNew w w' z (delP L (kb key)) r := by
  obtain ⟨a, cap, rfl, hcl, hok, hcells⟩ := h
  have HC : Hid (∀ u m, Below w.heap.size w u → m < L.length → ∃ b off, a = some ⟨b, off, none⟩ ∧ Pp.CellsAt u b (off + m * 4) (L.getD m Pp.zero)) := fun u m hu hm => by
    obtain ⟨b, off, e, hc⟩ := hcells (by intro e; rw [e] at hm; simp at hm)
    exact ⟨b, off, e, (hc m hm).block (hu.block _ (hc m hm).lt)⟩
  have HS : Hid (∀ n, n < L.length → delP (L.take (n + 1)) (kb key) = if kb (L.getD n Pp.zero).key = kb key then delP (L.take n) (kb key) else delP (L.take n) (kb key) ++ [L.getD n Pp.zero]) := fun n hn => delP_snoc L _ n hn
  have HL : Hid (∀ n, (delP (L.take n) (kb key)).length ≤ n) := fun n => Nat.le_trans (len_delP _ _) (by simp; omega)
  have HE : Hid (delP (L.take L.length) (kb key) = delP L (kb key)) := by unfold Hid; rw [List.take_length]
  have HZ : Hid (delP (L.take 0) (kb key) = []) := rfl
  clear hcells hok
  go_enter Try.func12, Try.ntmps12
  go_wp2
  go_loopw [5, 6] (fun s5 i wr => ∃ (k : Nat) (M : List Pp) (x : Option Addr) (c : Nat) (r : Option Nat), k ≤ L.length ∧ i = .int .i64 k ∧ s5 = .slice x M.length c ∧ Hid (M = delP (L.take k) (kb key)) ∧ Hid (PpNew w wr (.slice x M.length c) M r))
    (fun _ i _ => L.length - (intOf i).toNat)
  case atStart => exact ⟨0, [], none, 0, none, Nat.zero_le _, rfl, rfl, HZ.out.symm, PpNew.nil w⟩
  case round =>
    obtain ⟨k, M, x, c, r, hk, rfl, rfl, HM, HA⟩ := hrel
    have hMl : M.length ≤ k := by rw [HM.out]; exact HL.out k
    by_cases hlt : k < L.length
    · obtain ⟨b, off, rfl, hc⟩ := HC.out wr k HA.out.below hlt
      have HS1 : Hid (delP (L.take (k + 1)) (kb key) = if kb (L.getD k Pp.zero).key = kb key then M else M ++ [L.getD k Pp.zero]) := by unfold Hid; rw [HM.out]; exact HS.out k hlt
      have HCX : Hid (∀ u, Below w.heap.size w u → Pp.CellsAt u b (off + k * 4) (L.getD k Pp.zero)) := fun u hu => by
        obtain ⟨b', off', e, h⟩ := HC.out u k hu hlt
        simp at e
        obtain ⟨rfl, rfl⟩ := e
        exact h
      generalize L.getD k Pp.zero = xx at hc HCX HS1
      obtain ⟨xk, xv, xo, xt⟩ := xx
      obtain ⟨c0, c1, c2, c3⟩ := hc
      simp only at c0 c1 c2 c3 HS1
      have hki : (k : Int) < (L.length : Int) := by omega
      by_cases hke : xk = key
      · have HN : Hid (M = delP (L.take (k + 1)) (kb key)) := by unfold Hid; rw [HS1.out, if_pos (by rw [hke])]
        go_wp2
        go_roundw
        case rel => exact ⟨k + 1, M, x, c, r, by omega, by go_num, rfl, HN.out, HA.out⟩
        case measure => simp [intOf]; omega
      · have HN : Hid (M ++ [⟨xk, xv, xo, xt⟩] = delP (L.take (k + 1)) (kb key)) := by unfold Hid; rw [HS1.out, if_neg (fun e => hke (kb_inj e))]
        have hB : (xk.toList == key.toList) = false := keys_ne hke
        go_wp2_with (at_builtin; refine wpList_append_pp _ rfl _ _ rfl _ _ M [⟨xk, xv, xo, xt⟩] r rfl rfl ?hOwna ?hSrca ?hLena ?hRa ?_)
        case hOwna => exact HA.out.row.later (bel_al _ _)
        case hSrca => exact src_pp _ ⟨xk, xv, xo, xt⟩
        case hLena => simp; omega
        case hRa => exact .inr (by simp)
        intro v8 w8 g8 ho8 hg8 hr8
        have hlen8 : (M ++ [(⟨xk, xv, xo, xt⟩ : Pp)]).length = M.length + 1 := by simp
        obtain ⟨x8, c8, rfl, -, -⟩ := ho8.shape
        have HA8 : Hid (PpNew w w8 (.slice x8 (M ++ [(⟨xk, xv, xo, xt⟩ : Pp)]).length c8) (M ++ [⟨xk, xv, xo, xt⟩]) (some g8)) := (HA.out.later (bel_al _ _)).app ho8 hg8 (by simpa using hr8)
        clear ho8 hg8 hr8
        generalize hM8 : M ++ [(⟨xk, xv, xo, xt⟩ : Pp)] = M8 at HA8 HN hlen8
        clear hM8
        go_wp2
        go_roundw
        case rel => exact ⟨k + 1, M8, x8, c8, some g8, by omega, by go_num, by rw [hlen8], HN.out, HA8.out⟩
        case measure => simp [intOf]; omega
    · obtain rfl : k = L.length := by omega
      go_wp2
      go_ret
      refine ⟨_, r, rfl, ?_⟩
      rw [← HE.out, ← HM.out]
      exact HA.out
end Go.Proofs.Ytpclicimakgpdaa
