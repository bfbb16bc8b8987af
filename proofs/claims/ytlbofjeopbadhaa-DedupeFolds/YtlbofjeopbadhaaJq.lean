import Derived.Test.YtlbofjeopbadhaaJk
import Derived.Test.YtlbofjeopbadhaaJro
import Derived.Test.YtlbofjeopbadhaaJap
import Derived.Test.YtlbofjeopbadhaaJop
import Derived.Deep.Grids
/-! dedupe: lists that came in, of few elements; truths. -/
namespace Go.Proofs.Ytlbofjeopbadhaa
open Go.RowKit Go.Deep Go.ChangeShapes Go.WideShapes Go.ChangeAt Plain
set_option linter.unusedVariables false
set_option linter.unusedSimpArgs false

theorem open_recsN {H : Type} {enc : TypeId × Value → H} {W : World} {fuel : Nat} {v : Value} {x : DataW H × List MemPlace} (h : DataW.trod enc Try.prog W 0 (fun _ => true) true fuel 23 [v] = some x)
    (hsz : ∀ el sp, x.1 = .slice el sp → el.length + sp.length ≤ 1048576) : ∃ st : List Rc, RecsAt W v st ∧ st.length ≤ 1048576 := by
  rcases open_slice Try.underlying23 h with ⟨hcs, hx⟩ | ⟨a, len, cap, m, n, D, Pl, hcs, hb, hl, hm, hmm, hx, hel⟩
  · simp at hcs
    subst hcs
    exact ⟨[], ⟨none, 0, rfl, by simp, by simp, by simp⟩, by simp⟩
  · simp at hcs
    subst hcs
    simp only [if_true] at hmm
    subst hmm
    have each : ∀ i, i < m → ∃ s : Rc, s.Ok ∧ W.cell? ((a.add (i * 7)).add 0) = some (.int .i64 s.k) ∧ W.cell? ((a.add (i * 7)).add 1) = some (.int .i64 s.o) ∧ W.cell? ((a.add (i * 7)).add 2) = some (.int .i64 s.t) ∧ W.cell? ((a.add (i * 7)).add 3) = some (.int .i64 s.p) ∧
      W.cell? ((a.add (i * 7)).add 4) = some (.int .i64 s.q) ∧ W.cell? ((a.add (i * 7)).add 5) = some (.string s.key) ∧ W.cell? ((a.add (i * 7)).add 6) = some (.string s.val) := by
      intro i hi
      obtain ⟨cs', h1, h2⟩ := hel i hi
      exact open_rec h1 h2
    have iSt : Inhabited Rc := ⟨Rc.none⟩
    obtain ⟨q, hq⟩ := choose_lt each
    have hbig : len ≤ 1048576 := by
      have := hsz _ _ (by rw [hx])
      simp at this
      omega
    refine ⟨(List.range len).map q, ⟨some a, m, by simp, by simp; omega, ?_, ?_⟩, by simpa using hbig⟩
    · intro s hs
      obtain ⟨i, hi, rfl⟩ := List.mem_map.mp hs
      exact (hq i (by have := List.mem_range.mp hi; omega)).1
    · intro hne
      have hlen : 0 < len := by
        rcases Nat.eq_zero_or_pos len with rfl | h
        · simp at hne
        · exact h
      obtain ⟨b, off, spot⟩ := a
      have hspot : spot = none := by
        have := World.cell?_spot (hq 0 (by omega)).2.1
        simpa [Addr.add] using this
      subst hspot
      refine ⟨b, off, rfl, fun j hj => ?_⟩
      have hj' : j < len := by simpa using hj
      obtain ⟨_, c0, c1, c2, c3, c4, c5, c6⟩ := hq j (by omega)
      rw [WideShapes.add_plain, WideShapes.add_plain] at c0 c1 c2 c3 c4 c5 c6
      have e : ((List.range len).map q).getD j Rc.none = q j := by simp [hj']
      rw [e]
      exact ⟨c0, c1, c2, c3, c4, c5, c6⟩
theorem open_prsN {H : Type} {enc : TypeId × Value → H} {W : World} {fuel : Nat} {v : Value} {x : DataW H × List MemPlace} (h : DataW.trod enc Try.prog W 0 (fun _ => true) true fuel 22 [v] = some x)
    (hsz : ∀ el sp, x.1 = .slice el sp → el.length + sp.length ≤ 1048576) : ∃ st : List Pr, PrsAt W v st := by
  rcases open_slice Try.underlying22 h with ⟨hcs, hx⟩ | ⟨a, len, cap, m, n, D, PP, hcs, hb, hl, hm, hmm, hx, hel⟩
  · simp at hcs
    subst hcs
    exact ⟨[], ⟨none, 0, rfl, by simp, by simp, by simp⟩⟩
  · simp at hcs
    subst hcs
    simp only [if_true] at hmm
    subst hmm
    have each := fun i hi => (hel i hi).elim fun cs' h12 => open_pr (i := i) h12.1 h12.2
    have iSt : Inhabited Pr := ⟨Pr.zero⟩
    obtain ⟨q, hq⟩ := choose_lt each
    have hbig : len ≤ 8796093022000 := by
      have := hsz _ _ (by rw [hx])
      simp at this
      omega
    refine ⟨(List.range len).map q, ⟨some a, m, by simp, by simpa using hbig, ?_, ?_⟩⟩
    · intro s hs
      obtain ⟨i, hi, rfl⟩ := List.mem_map.mp hs
      exact (hq i (by have := List.mem_range.mp hi; omega)).1
    · intro hne
      have hlen : 0 < len := by
        rcases Nat.eq_zero_or_pos len with rfl | h
        · simp at hne
        · exact h
      obtain ⟨b, off, spot⟩ := a
      have hspot : spot = none := by
        have := World.cell?_spot (hq 0 (by omega)).2.1
        simpa [Addr.add] using this
      subst hspot
      refine ⟨b, off, rfl, fun j hj => ?_⟩
      have hj' : j < len := by simpa using hj
      obtain ⟨_, c0, c1, c2⟩ := hq j (by omega)
      rw [WideShapes.add_plain, WideShapes.add_plain] at c0 c1 c2
      have e : ((List.range len).map q).getD j Pr.zero = q j := by simp [hj']
      rw [e]
      exact ⟨c0, c1, c2⟩
theorem src_rs {w : World} {v : Value} {st : List Rc} (h : RecsAt w v st) : Src Try.prog 7 23 v st.length (rcells st) w := by
  obtain ⟨a, cap, rfl, h1, h2, h3⟩ := h
  by_cases hnil : st = []
  · subst hnil
    cases a with
    | none => exact Src.ofNil w Try.underlying23 cap
    | some a => exact Src.ofSlice w Try.underlying23 a 0 cap [] (by simp) (by simp) (by simp)
  · obtain ⟨b, off, rfl, h5⟩ := h3 hnil
    refine Src.ofSlice w Try.underlying23 _ _ cap _ (by rw [rcells_len]; omega) (fun j u hj => ?_) (rcells_one st)
    have hjl : j < 7 * st.length := by
      have := (List.getElem?_eq_some_iff.mp hj).1
      rwa [rcells_len] at this
    rw [WideShapes.add_plain]
    have hg := rcells_get st (j / 7) (j % 7) (by omega) (by omega)
    rw [show j / 7 * 7 + j % 7 = j by omega, hj] at hg
    obtain ⟨c0, c1, c2, c3, c4, c5, c6⟩ := h5 (j / 7) (by omega)
    have hm : j % 7 = 0 ∨ j % 7 = 1 ∨ j % 7 = 2 ∨ j % 7 = 3 ∨ j % 7 = 4 ∨ j % 7 = 5 ∨ j % 7 = 6 := by omega
    rw [hg]
    rcases hm with e | e | e | e | e | e | e <;> rw [e]
    · rw [show off + j = off + j / 7 * 7 by omega]; exact c0
    · rw [show off + j = off + j / 7 * 7 + 1 by omega]; exact c1
    · rw [show off + j = off + j / 7 * 7 + 2 by omega]; exact c2
    · rw [show off + j = off + j / 7 * 7 + 3 by omega]; exact c3
    · rw [show off + j = off + j / 7 * 7 + 4 by omega]; exact c4
    · rw [show off + j = off + j / 7 * 7 + 5 by omega]; exact c5
    · rw [show off + j = off + j / 7 * 7 + 6 by omega]; exact c6

/-- v is a slice of truths. -/
def BlsAt (w : World) (v : Value) (bs : List Bool) : Prop := ∃ a cap, v = .slice a bs.length cap ∧ bs.length ≤ 1048576 ∧ (bs ≠ [] → ∃ b off, a = some ⟨b, off, none⟩ ∧ ∀ j, j < bs.length → w.cell? ⟨b, off + j, none⟩ = some (.bool (bs.getD j false)))
theorem BlsAt.later {w w' : World} {v : Value} {bs : List Bool} (h : BlsAt w v bs) (hb : Below w.heap.size w w') : BlsAt w' v bs := by
  obtain ⟨a, cap, e, h1, h3⟩ := h
  refine ⟨a, cap, e, h1, fun hne => ?_⟩
  obtain ⟨b, off, e2, hc⟩ := h3 hne
  exact ⟨b, off, e2, fun j hj => (hb.cell (p := ⟨b, off + j, none⟩) (cell_lt (hc j hj))).trans (hc j hj)⟩
theorem cells_4 : Try.prog.cellsOf 4 = 1 := by kernel_rfl
theorem open_bls {H : Type} {enc : TypeId × Value → H} {W : World} {fuel : Nat} {v : Value} {x : DataW H × List MemPlace} (h : DataW.trod enc Try.prog W 0 (fun _ => true) true fuel 24 [v] = some x)
    (hsz : ∀ el sp, x.1 = .slice el sp → el.length + sp.length ≤ 1048576) : ∃ bs : List Bool, BlsAt W v bs := by
  rcases open_bools Try.underlying24 Try.underlying4 cells_4 h with ⟨hcs, hx⟩ | ⟨a, len, cap, B, hcs, hb, hl, hm, hx, hcell⟩
  · simp at hcs
    subst hcs
    exact ⟨[], none, 0, rfl, by simp, by simp⟩
  · simp at hcs
    subst hcs
    have hbig : len ≤ 1048576 := by
      have := hsz _ _ (by rw [hx]; rfl)
      simp at this
      omega
    refine ⟨(List.range len).map B, some a, cap, by simp, by simpa using hbig, fun hne => ?_⟩
    have hlen : 0 < len := by
      rcases Nat.eq_zero_or_pos len with rfl | h
      · simp at hne
      · exact h
    obtain ⟨b, off, spot⟩ := a
    have hspot : spot = none := by
      have := World.cell?_spot (hcell 0 (by omega))
      simpa [Addr.add] using this
    subst hspot
    refine ⟨b, off, rfl, fun j hj => ?_⟩
    have hj' : j < len := by simpa using hj
    have hc := hcell j (by omega)
    rw [WideShapes.add_plain] at hc
    rw [hc]
    simp [hj']
end Go.Proofs.Ytlbofjeopbadhaa
