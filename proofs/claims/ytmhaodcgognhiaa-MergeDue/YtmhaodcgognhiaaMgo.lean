import Derived.Test.YtmhaodcgognhiaaOp4
import Derived.Test.YtmhaodcgognhiaaMgs
/-! merge: slices of stats that came in. -/
namespace Go.Proofs.Ytmhaodcgognhiaa
open Go.RowKit Go.Deep Go.ChangeShapes Go.WideShapes Go.ChangeAt Plain
set_option linter.unusedVariables false
theorem cells_st : Try.prog.cellsOf 36 = 5 := by kernel_rfl
theorem bytes_st : Try.prog.bytesOf 36 = 40 := by kernel_rfl
set_option maxRecDepth 100000 in
theorem open_st {H : Type} {enc : TypeId × Value → H} {W : World} {n : Nat} {a : Addr} {i : Nat} {x : DataW H × List MemPlace} {cs' : List Value} (h1 : W.cells? 0 (a.add (i * Try.prog.cellsOf 36)) (Try.prog.cellsOf 36) = some cs')
    (h2 : DataW.trod enc Try.prog W 0 (fun _ => true) true n 36 cs' = some x) :
    ∃ s : Ss, s.Ok ∧ W.cell? ((a.add (i * 5)).add 0) = some (.int .i64 s.num) ∧ W.cell? ((a.add (i * 5)).add 1) = some (.int .i64 s.cnt) ∧ W.cell? ((a.add (i * 5)).add 2) = some (.int .i64 s.liv) ∧ W.cell? ((a.add (i * 5)).add 3) = some (.int .i64 s.byt) ∧ W.cell? ((a.add (i * 5)).add 4) = some (.int .i64 s.lby) := by
  rw [cells_st] at h1
  obtain ⟨_, hlen0, hcell⟩ := World.cells?_some h1
  obtain ⟨xs, m, _, hx, hl, hlen, hf⟩ := DataW.trod_struct Try.underlying36 h2
  rw [cells_st] at hl
  have hlen : xs.length = 5 := hlen
  match cs', hl with
  | [v0, v1, v2, v3, v4], _ =>
    match xs, hlen with
    | [y0, y1, y2, y3, y4], _ =>
      have k0 : DataW.trod enc Try.prog W 0 (fun _ => true) true m 3 [v0] = some y0 := by simpa [cells_2, cells_3] using hf 0 _ rfl
      have k1 : DataW.trod enc Try.prog W 0 (fun _ => true) true m 3 [v1] = some y1 := by simpa [cells_2, cells_3] using hf 1 _ rfl
      have k2 : DataW.trod enc Try.prog W 0 (fun _ => true) true m 3 [v2] = some y2 := by simpa [cells_2, cells_3] using hf 2 _ rfl
      have k3 : DataW.trod enc Try.prog W 0 (fun _ => true) true m 3 [v3] = some y3 := by simpa [cells_2, cells_3] using hf 3 _ rfl
      have k4 : DataW.trod enc Try.prog W 0 (fun _ => true) true m 3 [v4] = some y4 := by simpa [cells_2, cells_3] using hf 4 _ rfl
      obtain ⟨n0, e0, _, w0⟩ := DataW.trod_int Try.underlying3 k0
      obtain ⟨n1, e1, _, w1⟩ := DataW.trod_int Try.underlying3 k1
      obtain ⟨n2, e2, _, w2⟩ := DataW.trod_int Try.underlying3 k2
      obtain ⟨n3, e3, _, w3⟩ := DataW.trod_int Try.underlying3 k3
      obtain ⟨n4, e4, _, w4⟩ := DataW.trod_int Try.underlying3 k4
      simp only [List.cons.injEq, and_true] at e0 e1 e2 e3 e4
      subst e0 e1 e2 e3 e4
      exact ⟨⟨n0, n1, n2, n3, n4⟩, ⟨wf_i64 w0, wf_i64 w1, wf_i64 w2, wf_i64 w3, wf_i64 w4⟩, by simpa using hcell 0 (by omega), by simpa using hcell 1 (by omega), by simpa using hcell 2 (by omega), by simpa using hcell 3 (by omega), by simpa using hcell 4 (by omega)⟩

theorem open_sts {H : Type} {enc : TypeId × Value → H} {W : World} {fuel : Nat} {v : Value} {x : DataW H × List MemPlace} (h : DataW.trod enc Try.prog W 0 (fun _ => true) true fuel 24 [v] = some x)
    (hsz : ∀ el sp, x.1 = .slice el sp → (el.length + sp.length) * Try.prog.bytesOf 36 ≤ reachBytes) : ∃ st : List Ss, SssAt W v st := by
  rcases open_slice Try.underlying24 h with ⟨hcs, hx⟩ | ⟨a, len, cap, m, n, D, PP, hcs, hb, hl, hm, hmm, hx, hel⟩
  · simp at hcs
    subst hcs
    exact ⟨[], ⟨none, 0, rfl, by simp, by simp, by simp⟩⟩
  · simp at hcs
    subst hcs
    simp only [if_true] at hmm
    subst hmm
    have each := fun i hi => (hel i hi).elim fun cs' h12 => open_st (i := i) h12.1 h12.2
    have iSt : Inhabited Ss := ⟨Ss.zero⟩
    obtain ⟨q, hq⟩ := choose_lt each
    have hbig : len ≤ 4398046511000 := by
      have := hsz _ _ (by rw [hx])
      rw [bytes_st] at this
      simp [reachBytes] at this
      omega
    refine ⟨(List.range len).map q, ⟨some a, m, by simp, by simpa using hbig, ?_, ?_⟩⟩
    · intro s hs
      obtain ⟨i, hi, rfl⟩ := List.mem_map.mp hs
      exact (hq i (by have := List.mem_range.mp hi; omega)).1
    · intro hne
      have hlen : 0 < len := by
        rcases Nat.eq_zero_or_pos len with rfl | h
        · simp at hne
        · exact h
      obtain ⟨b, off, spot⟩ := a
      have hspot : spot = none := by
        have := World.cell?_spot (hq 0 (by omega)).2.1
        simpa [Addr.add] using this
      subst hspot
      refine ⟨b, off, rfl, fun j hj => ?_⟩
      have hj' : j < len := by simpa using hj
      obtain ⟨_, c0, c1, c2, c3, c4⟩ := hq j (by omega)
      rw [WideShapes.add_plain, WideShapes.add_plain] at c0 c1 c2 c3 c4
      have e : ((List.range len).map q).getD j Ss.zero = q j := by simp [hj']
      rw [e]
      exact ⟨c0, c1, c2, c3, c4⟩
end Go.Proofs.Ytmhaodcgognhiaa
