import Derived.Test.YtmcfcbonmmifeaaDoorJro
import Derived.Test.YtmcfcbonmmifeaaDoorJtr
/-! dedupe: lists of tries that came in. -/
namespace Go.Proofs.YtmcfcbonmmifeaaDoor
open Go.RowKit Go.Deep Go.ChangeShapes Go.WideShapes Go.ChangeAt Plain
set_option linter.unusedVariables false
set_option linter.unusedSimpArgs false

theorem cells_tr : Tryd.prog.cellsOf 33 = 2 := by kernel_rfl
theorem bytes_tr : Tryd.prog.bytesOf 33 = 16 := by kernel_rfl
set_option maxRecDepth 100000 in
theorem open_tr {H : Type} {enc : TypeId × Value → H} {W : World} {n : Nat} {a : Addr} {i : Nat} {x : DataW H × List MemPlace} {cs' : List Value} (h1 : W.cells? 0 (a.add (i * Tryd.prog.cellsOf 33)) (Tryd.prog.cellsOf 33) = some cs')
    (h2 : DataW.trod enc Tryd.prog W 0 (fun _ => true) true n 33 cs' = some x) :
    ∃ s : Tr, s.Ok ∧ W.cell? ((a.add (i * 2)).add 0) = some (.int .i64 s.pid) ∧ W.cell? ((a.add (i * 2)).add 1) = some (.int .i64 s.seq) := by
  rw [cells_tr] at h1
  obtain ⟨_, hlen0, hcell⟩ := World.cells?_some h1
  obtain ⟨xs, m, _, hx, hl, hlen, hf⟩ := DataW.trod_struct Tryd.underlying33 h2
  rw [cells_tr] at hl
  have hlen : xs.length = 2 := hlen
  match cs', hl with
  | [v0, v1], _ =>
    match xs, hlen with
    | [y0, y1], _ =>
      have k0 : DataW.trod enc Tryd.prog W 0 (fun _ => true) true m 2 [v0] = some y0 := by simpa [cells_2, cells_3] using hf 0 _ rfl
      have k1 : DataW.trod enc Tryd.prog W 0 (fun _ => true) true m 2 [v1] = some y1 := by simpa [cells_2, cells_3] using hf 1 _ rfl
      obtain ⟨n0, e0, _, w0⟩ := DataW.trod_int Tryd.underlying2 k0
      obtain ⟨n1, e1, _, w1⟩ := DataW.trod_int Tryd.underlying2 k1
      simp only [List.cons.injEq, and_true] at e0 e1
      subst e0 e1
      exact ⟨⟨n0, n1⟩, ⟨wf_i64 w0, wf_i64 w1⟩, by simpa using hcell 0 (by omega), by simpa using hcell 1 (by omega)⟩

theorem open_trs {H : Type} {enc : TypeId × Value → H} {W : World} {fuel : Nat} {v : Value} {x : DataW H × List MemPlace} (h : DataW.trod enc Tryd.prog W 0 (fun _ => true) true fuel 22 [v] = some x)
    (hsz : ∀ el sp, x.1 = .slice el sp → (el.length + sp.length) * Tryd.prog.bytesOf 33 ≤ reachBytes) : ∃ st : List Tr, TrsAt W v st := by
  rcases open_slice Tryd.underlying22 h with ⟨hcs, hx⟩ | ⟨a, len, cap, m, n, D, PP, hcs, hb, hl, hm, hmm, hx, hel⟩
  · simp at hcs
    subst hcs
    exact ⟨[], ⟨none, 0, rfl, by simp, by simp, by simp⟩⟩
  · simp at hcs
    subst hcs
    simp only [if_true] at hmm
    subst hmm
    have each := fun i hi => (hel i hi).elim fun cs' h12 => open_tr (i := i) h12.1 h12.2
    have iSt : Inhabited Tr := ⟨Tr.zero⟩
    obtain ⟨q, hq⟩ := choose_lt each
    have hbig : len ≤ 8796093022000 := by
      have := hsz _ _ (by rw [hx])
      rw [bytes_tr] at this
      simp [reachBytes] at this
      omega
    refine ⟨(List.range len).map q, ⟨some a, m, by simp, by simpa using hbig, ?_, ?_⟩⟩
    · intro s hs
      obtain ⟨i, hi, rfl⟩ := List.mem_map.mp hs
      exact (hq i (by have := List.mem_range.mp hi; omega)).1
    · intro hne
      have hlen : 0 < len := by
        rcases Nat.eq_zero_or_pos len with rfl | h
        · simp at hne
        · exact h
      obtain ⟨b, off, spot⟩ := a
      have hspot : spot = none := by
        have := World.cell?_spot (hq 0 (by omega)).2.1
        simpa [Addr.add] using this
      subst hspot
      refine ⟨b, off, rfl, fun j hj => ?_⟩
      have hj' : j < len := by simpa using hj
      obtain ⟨_, c0, c1⟩ := hq j (by omega)
      rw [WideShapes.add_plain, WideShapes.add_plain] at c0 c1
      have e : ((List.range len).map q).getD j Tr.zero = q j := by simp [hj']
      rw [e]
      exact ⟨c0, c1⟩
end Go.Proofs.YtmcfcbonmmifeaaDoor
