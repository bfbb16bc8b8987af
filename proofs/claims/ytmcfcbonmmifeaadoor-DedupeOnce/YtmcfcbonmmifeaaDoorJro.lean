import Derived.Test.YtmcfcbonmmifeaaDoorJl
import Derived.Test.YtmcfcbonmmifeaaDoorRows
import Derived.ProofKit
import Derived.OpenShut
import Derived.SizedLaws
import Derived.Deep.Slices
/-! dedupe: lists of producers that came in. -/
namespace Go.Proofs.YtmcfcbonmmifeaaDoor
open Go.RowKit Go.Deep Go.ChangeShapes Go.WideShapes Go.ChangeAt Plain
set_option linter.unusedVariables false
set_option linter.unusedSimpArgs false

theorem cells_2 : Tryd.prog.cellsOf 2 = 1 := by kernel_rfl
theorem cells_3 : Tryd.prog.cellsOf 3 = 1 := by kernel_rfl
theorem wf_i64 {z : Int} (h : (Lit.int .i64 z).wf = true) : I64 z := by
  have := bounds_i64 h
  unfold I64
  omega
theorem cells_pr : Tryd.prog.cellsOf 43 = 3 := by kernel_rfl
theorem bytes_pr : Tryd.prog.bytesOf 43 = 24 := by kernel_rfl
set_option maxRecDepth 100000 in
theorem open_pr {H : Type} {enc : TypeId × Value → H} {W : World} {n : Nat} {a : Addr} {i : Nat} {x : DataW H × List MemPlace} {cs' : List Value} (h1 : W.cells? 0 (a.add (i * Tryd.prog.cellsOf 43)) (Tryd.prog.cellsOf 43) = some cs')
    (h2 : DataW.trod enc Tryd.prog W 0 (fun _ => true) true n 43 cs' = some x) :
    ∃ s : Pr, s.Ok ∧ W.cell? ((a.add (i * 3)).add 0) = some (.int .i64 s.pid) ∧ W.cell? ((a.add (i * 3)).add 1) = some (.int .i64 s.seq) ∧ W.cell? ((a.add (i * 3)).add 2) = some (.int .i64 s.off) := by
  rw [cells_pr] at h1
  obtain ⟨_, hlen0, hcell⟩ := World.cells?_some h1
  obtain ⟨xs, m, _, hx, hl, hlen, hf⟩ := DataW.trod_struct Tryd.underlying43 h2
  rw [cells_pr] at hl
  have hlen : xs.length = 3 := hlen
  match cs', hl with
  | [v0, v1, v2], _ =>
    match xs, hlen with
    | [y0, y1, y2], _ =>
      have k0 : DataW.trod enc Tryd.prog W 0 (fun _ => true) true m 2 [v0] = some y0 := by simpa [cells_2, cells_3] using hf 0 _ rfl
      have k1 : DataW.trod enc Tryd.prog W 0 (fun _ => true) true m 2 [v1] = some y1 := by simpa [cells_2, cells_3] using hf 1 _ rfl
      have k2 : DataW.trod enc Tryd.prog W 0 (fun _ => true) true m 2 [v2] = some y2 := by simpa [cells_2, cells_3] using hf 2 _ rfl
      obtain ⟨n0, e0, _, w0⟩ := DataW.trod_int Tryd.underlying2 k0
      obtain ⟨n1, e1, _, w1⟩ := DataW.trod_int Tryd.underlying2 k1
      obtain ⟨n2, e2, _, w2⟩ := DataW.trod_int Tryd.underlying2 k2
      simp only [List.cons.injEq, and_true] at e0 e1 e2
      subst e0 e1 e2
      exact ⟨⟨n0, n1, n2⟩, ⟨wf_i64 w0, wf_i64 w1, wf_i64 w2⟩, by simpa using hcell 0 (by omega), by simpa using hcell 1 (by omega), by simpa using hcell 2 (by omega)⟩

theorem open_prs {H : Type} {enc : TypeId × Value → H} {W : World} {fuel : Nat} {v : Value} {x : DataW H × List MemPlace} (h : DataW.trod enc Tryd.prog W 0 (fun _ => true) true fuel 36 [v] = some x)
    (hsz : ∀ el sp, x.1 = .slice el sp → (el.length + sp.length) * Tryd.prog.bytesOf 43 ≤ reachBytes) : ∃ st : List Pr, PrsAt W v st := by
  rcases open_slice Tryd.underlying36 h with ⟨hcs, hx⟩ | ⟨a, len, cap, m, n, D, PP, hcs, hb, hl, hm, hmm, hx, hel⟩
  · simp at hcs
    subst hcs
    exact ⟨[], ⟨none, 0, rfl, by simp, by simp, by simp⟩⟩
  · simp at hcs
    subst hcs
    simp only [if_true] at hmm
    subst hmm
    have each := fun i hi => (hel i hi).elim fun cs' h12 => open_pr (i := i) h12.1 h12.2
    have iSt : Inhabited Pr := ⟨Pr.zero⟩
    obtain ⟨q, hq⟩ := choose_lt each
    have hbig : len ≤ 8796093022000 := by
      have := hsz _ _ (by rw [hx])
      rw [bytes_pr] at this
      simp [reachBytes] at this
      omega
    refine ⟨(List.range len).map q, ⟨some a, m, by simp, by simpa using hbig, ?_, ?_⟩⟩
    · intro s hs
      obtain ⟨i, hi, rfl⟩ := List.mem_map.mp hs
      exact (hq i (by have := List.mem_range.mp hi; omega)).1
    · intro hne
      have hlen : 0 < len := by
        rcases Nat.eq_zero_or_pos len with rfl | h
        · simp at hne
        · exact h
      obtain ⟨b, off, spot⟩ := a
      have hspot : spot = none := by
        have := World.cell?_spot (hq 0 (by omega)).2.1
        simpa [Addr.add] using this
      subst hspot
      refine ⟨b, off, rfl, fun j hj => ?_⟩
      have hj' : j < len := by simpa using hj
      obtain ⟨_, c0, c1, c2⟩ := hq j (by omega)
      rw [WideShapes.add_plain, WideShapes.add_plain] at c0 c1 c2
      have e : ((List.range len).map q).getD j Pr.zero = q j := by simp [hj']
      rw [e]
      exact ⟨c0, c1, c2⟩
theorem qcells_one (ks : List Pr) : ∀ u ∈ qcells ks, u.oneCell' = true := by
  intro u hu
  simp only [qcells, List.mem_flatMap] at hu
  obtain ⟨x, _, hx⟩ := hu
  simp [Pr.cells] at hx
  rcases hx with rfl | rfl | rfl <;> rfl
theorem src_qs {w : World} {v : Value} {st : List Pr} (h : PrsAt w v st) : Src Tryd.prog 3 36 v st.length (qcells st) w := by
  obtain ⟨a, cap, rfl, h1, h2, h3⟩ := h
  by_cases hnil : st = []
  · subst hnil
    cases a with
    | none => exact Src.ofNil w Tryd.underlying36 cap
    | some a => exact Src.ofSlice w Tryd.underlying36 a 0 cap [] (by simp) (by simp) (by simp)
  · obtain ⟨b, off, rfl, h5⟩ := h3 hnil
    refine Src.ofSlice w Tryd.underlying36 _ _ cap _ (by rw [qcells_len]; omega) (fun j u hj => ?_) (qcells_one st)
    have hjl : j < 3 * st.length := by
      have := (List.getElem?_eq_some_iff.mp hj).1
      rwa [qcells_len] at this
    rw [WideShapes.add_plain]
    have hg := qcells_get st (j / 3) (j % 3) (by omega) (by omega)
    rw [show j / 3 * 3 + j % 3 = j by omega, hj] at hg
    obtain ⟨c0, c1, c2⟩ := h5 (j / 3) (by omega)
    have hm : j % 3 = 0 ∨ j % 3 = 1 ∨ j % 3 = 2 := by omega
    rw [hg]
    rcases hm with e | e | e <;> rw [e]
    · rw [show off + j = off + j / 3 * 3 by omega]; exact c0
    · rw [show off + j = off + j / 3 * 3 + 1 by omega]; exact c1
    · rw [show off + j = off + j / 3 * 3 + 2 by omega]; exact c2
end Go.Proofs.YtmcfcbonmmifeaaDoor
