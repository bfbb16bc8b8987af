import Derived.Test.YthfnbcicpcbgjaaKmo
/-! keydir: slices that came in, of few elements. -/
namespace Go.Proofs.Ythfnbcicpcbgjaa
open Go.RowKit Go.Deep Go.ChangeShapes Go.WideShapes Go.ChangeAt Plain
set_option linter.unusedVariables false

theorem open_krsN {H : Type} {enc : TypeId × Value → H} {W : World} {fuel : Nat} {v : Value} {x : DataW H × List MemPlace} (h : DataW.trod enc Try.prog W 0 (fun _ => true) true fuel 24 [v] = some x)
    (hsz : ∀ el sp, x.1 = .slice el sp → el.length + sp.length ≤ 1048576) : ∃ st : List Kr, KrsAt W v st ∧ st.length ≤ 1048576 := by
  rcases open_slice Try.underlying24 h with ⟨hcs, hx⟩ | ⟨a, len, cap, m, n, D, PP, hcs, hb, hl, hm, hmm, hx, hel⟩
  · simp at hcs
    subst hcs
    exact ⟨[], ⟨none, 0, rfl, by simp, by simp, by simp⟩, by simp⟩
  · simp at hcs
    subst hcs
    simp only [if_true] at hmm
    subst hmm
    have each := fun i hi => (hel i hi).elim fun cs' h12 => open_kr (i := i) h12.1 h12.2
    have iSt : Inhabited Kr := ⟨Kr.zero⟩
    obtain ⟨q, hq⟩ := choose_lt each
    have hbig : len ≤ 1048576 := by
      have := hsz _ _ (by rw [hx])
      simp at this
      omega
    refine ⟨(List.range len).map q, ⟨some a, m, by simp, by simp; omega, ?_, ?_⟩, by simpa using hbig⟩
    · intro s hs
      obtain ⟨i, hi, rfl⟩ := List.mem_map.mp hs
      exact (hq i (by have := List.mem_range.mp hi; omega)).1
    · intro hne
      have hlen : 0 < len := by
        rcases Nat.eq_zero_or_pos len with rfl | h
        · simp at hne
        · exact h
      obtain ⟨b, off, spot⟩ := a
      have hspot : spot = none := by
        have := World.cell?_spot (hq 0 (by omega)).2.1
        simpa [Addr.add] using this
      subst hspot
      refine ⟨b, off, rfl, fun j hj => ?_⟩
      have hj' : j < len := by simpa using hj
      obtain ⟨_, c0, c1, c2, c3, c4, c5, c6⟩ := hq j (by omega)
      rw [WideShapes.add_plain, WideShapes.add_plain] at c0 c1 c2 c3 c4 c5 c6
      have e : ((List.range len).map q).getD j Kr.zero = q j := by simp [hj']
      rw [e]
      exact ⟨c0, c1, c2, c3, c4, c5, c6⟩

theorem open_txtsN {H : Type} {enc : TypeId × Value → H} {W : World} {fuel : Nat} {v : Value} {x : DataW H × List MemPlace} (h : DataW.trod enc Try.prog W 0 (fun _ => true) true fuel 22 [v] = some x)
    (hsz : ∀ el sp, x.1 = .slice el sp → el.length + sp.length ≤ 1048576) : ∃ ss : List ByteArray, TxtsAt W v ss ∧ ss.length ≤ 1048576 := by
  rcases open_strings Try.underlying22 Try.underlying9 cells_9 h with ⟨hcs, hx⟩ | ⟨a, len, cap, ss, hcs, hb, hl, hm, hsl, hx, hcell, hlen⟩
  · simp at hcs
    subst hcs
    exact ⟨[], ⟨none, 0, rfl, by simp, by simp, by simp⟩, by simp⟩
  · simp at hcs
    subst hcs
    simp only [if_true] at hsl
    have hbig := hsz _ _ (by rw [hx])
    have htk : (ss.take len).length = len := by simp; omega
    have hlb : len ≤ 1048576 := by
      simp [strs] at hbig
      omega
    refine ⟨ss.take len, ⟨some a, cap, by rw [htk], by rw [htk]; omega, fun s hs => hlen s (List.mem_of_mem_take hs), fun hne => ?_⟩, by rw [htk]; exact hlb⟩
    · obtain ⟨b, off, spot⟩ := a
      have hl0 : 0 < len := by
        rcases Nat.eq_zero_or_pos len with h0 | h0
        · rw [h0] at hne; simp at hne
        · exact h0
      have hspot : spot = none := by
        have := World.cell?_spot (hcell 0 (by omega))
        simpa [Addr.add] using this
      subst hspot
      refine ⟨b, off, rfl, fun j hj => ?_⟩
      rw [htk] at hj
      have hc := hcell j (by omega)
      rw [WideShapes.add_plain] at hc
      rw [hc]
      have e : (ss.take len).getD j ⟨#[]⟩ = ss.getD j ByteArray.empty := by
        simp [List.getD_eq_getElem?_getD, hj]
        rfl
      rw [e]
end Go.Proofs.Ythfnbcicpcbgjaa
