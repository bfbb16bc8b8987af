import Derived.Test.YtpclicimakgpdaaCfa
import Derived.Test.YtpclicimakgpdaaRows
import Derived.ProofKit
import Derived.OpenShut
import Derived.SizedLaws
import Derived.Deep.Slices
import Derived.Deep.Strs
/-! cursor: pairs and records that came in. -/
namespace Go.Proofs.Ytpclicimakgpdaa
open Go.RowKit Go.Deep Go.ChangeShapes Go.WideShapes Go.ChangeAt Plain
set_option linter.unusedVariables false
set_option linter.unusedSimpArgs false

theorem cells_2 : Try.prog.cellsOf 2 = 1 := by kernel_rfl
theorem cells_3 : Try.prog.cellsOf 3 = 1 := by kernel_rfl
theorem wf_i64 {z : Int} (h : (Lit.int .i64 z).wf = true) : I64 z := by
  have := bounds_i64 h
  unfold I64
  omega
theorem cells_rec : Try.prog.cellsOf 31 = 7 := by kernel_rfl
theorem cells_9 : Try.prog.cellsOf 9 = 1 := by kernel_rfl

set_option maxRecDepth 100000 in
theorem open_rec {H : Type} {enc : TypeId × Value → H} {W : World} {n : Nat} {a : Addr} {i : Nat} {x : DataW H × List MemPlace} {cs' : List Value} (h1 : W.cells? 0 (a.add (i * Try.prog.cellsOf 31)) (Try.prog.cellsOf 31) = some cs')
    (h2 : DataW.trod enc Try.prog W 0 (fun _ => true) true n 31 cs' = some x) :
    ∃ s : Rc, s.Ok ∧ W.cell? ((a.add (i * 7)).add 0) = some (.int .i64 s.k) ∧ W.cell? ((a.add (i * 7)).add 1) = some (.int .i64 s.o) ∧ W.cell? ((a.add (i * 7)).add 2) = some (.int .i64 s.t) ∧ W.cell? ((a.add (i * 7)).add 3) = some (.int .i64 s.p) ∧
      W.cell? ((a.add (i * 7)).add 4) = some (.int .i64 s.q) ∧ W.cell? ((a.add (i * 7)).add 5) = some (.string s.key) ∧ W.cell? ((a.add (i * 7)).add 6) = some (.string s.val) := by
  rw [cells_rec] at h1
  obtain ⟨_, hlen0, hcell⟩ := World.cells?_some h1
  obtain ⟨xs, m, _, hx, hl, hlen, hf⟩ := DataW.trod_struct Try.underlying31 h2
  rw [cells_rec] at hl
  have hlen : xs.length = 7 := hlen
  match cs', hl with
  | [v0, v1, v2, v3, v4, v5, v6], _ =>
    match xs, hlen with
    | [y0, y1, y2, y3, y4, y5, y6], _ =>
      have k0 : DataW.trod enc Try.prog W 0 (fun _ => true) true m 3 [v0] = some y0 := by simpa [cells_3] using hf 0 _ rfl
      have k1 : DataW.trod enc Try.prog W 0 (fun _ => true) true m 2 [v1] = some y1 := by simpa [cells_2] using hf 1 _ rfl
      have k2 : DataW.trod enc Try.prog W 0 (fun _ => true) true m 2 [v2] = some y2 := by simpa [cells_2] using hf 2 _ rfl
      have k3 : DataW.trod enc Try.prog W 0 (fun _ => true) true m 2 [v3] = some y3 := by simpa [cells_2] using hf 3 _ rfl
      have k4 : DataW.trod enc Try.prog W 0 (fun _ => true) true m 2 [v4] = some y4 := by simpa [cells_2] using hf 4 _ rfl
      have k5 : DataW.trod enc Try.prog W 0 (fun _ => true) true m 9 [v5] = some y5 := by simpa [cells_9] using hf 5 _ rfl
      have k6 : DataW.trod enc Try.prog W 0 (fun _ => true) true m 9 [v6] = some y6 := by simpa [cells_9] using hf 6 _ rfl
      obtain ⟨n0, e0, _, w0⟩ := DataW.trod_int Try.underlying3 k0
      obtain ⟨n1, e1, _, w1⟩ := DataW.trod_int Try.underlying2 k1
      obtain ⟨n2, e2, _, w2⟩ := DataW.trod_int Try.underlying2 k2
      obtain ⟨n3, e3, _, w3⟩ := DataW.trod_int Try.underlying2 k3
      obtain ⟨n4, e4, _, w4⟩ := DataW.trod_int Try.underlying2 k4
      obtain ⟨s5, e5, _, w5⟩ := DataW.trod_string Try.underlying9 k5
      obtain ⟨s6, e6, _, w6⟩ := DataW.trod_string Try.underlying9 k6
      simp only [List.cons.injEq, and_true] at e0 e1 e2 e3 e4 e5 e6
      subst e0 e1 e2 e3 e4 e5 e6
      exact ⟨⟨n0, n1, n2, n3, n4, s5, s6⟩, ⟨wf_i64 w0, wf_i64 w1, wf_i64 w2, wf_i64 w3, wf_i64 w4, w5, w6⟩, by simpa using hcell 0 (by omega), by simpa using hcell 1 (by omega), by simpa using hcell 2 (by omega), by simpa using hcell 3 (by omega), by simpa using hcell 4 (by omega), by simpa using hcell 5 (by omega), by simpa using hcell 6 (by omega)⟩

theorem open_recsN {H : Type} {enc : TypeId × Value → H} {W : World} {fuel : Nat} {v : Value} {x : DataW H × List MemPlace} (h : DataW.trod enc Try.prog W 0 (fun _ => true) true fuel 23 [v] = some x)
    (hsz : ∀ el sp, x.1 = .slice el sp → el.length + sp.length ≤ 1048576) : ∃ st : List Rc, RecsAt W v st ∧ st.length ≤ 1048576 := by
  rcases open_slice Try.underlying23 h with ⟨hcs, hx⟩ | ⟨a, len, cap, m, n, D, Pl, hcs, hb, hl, hm, hmm, hx, hel⟩
  · simp at hcs
    subst hcs
    exact ⟨[], ⟨none, 0, rfl, by simp, by simp, by simp⟩, by simp⟩
  · simp at hcs
    subst hcs
    simp only [if_true] at hmm
    subst hmm
    have each : ∀ i, i < m → ∃ s : Rc, s.Ok ∧ W.cell? ((a.add (i * 7)).add 0) = some (.int .i64 s.k) ∧ W.cell? ((a.add (i * 7)).add 1) = some (.int .i64 s.o) ∧ W.cell? ((a.add (i * 7)).add 2) = some (.int .i64 s.t) ∧ W.cell? ((a.add (i * 7)).add 3) = some (.int .i64 s.p) ∧
      W.cell? ((a.add (i * 7)).add 4) = some (.int .i64 s.q) ∧ W.cell? ((a.add (i * 7)).add 5) = some (.string s.key) ∧ W.cell? ((a.add (i * 7)).add 6) = some (.string s.val) := by
      intro i hi
      obtain ⟨cs', h1, h2⟩ := hel i hi
      exact open_rec h1 h2
    have iSt : Inhabited Rc := ⟨Rc.none⟩
    obtain ⟨q, hq⟩ := choose_lt each
    have hbig : len ≤ 1048576 := by
      have := hsz _ _ (by rw [hx])
      simp at this
      omega
    refine ⟨(List.range len).map q, ⟨some a, m, by simp, by simp; omega, ?_, ?_⟩, by simpa using hbig⟩
    · intro s hs
      obtain ⟨i, hi, rfl⟩ := List.mem_map.mp hs
      exact (hq i (by have := List.mem_range.mp hi; omega)).1
    · intro hne
      have hlen : 0 < len := by
        rcases Nat.eq_zero_or_pos len with rfl | h
        · simp at hne
        · exact h
      obtain ⟨b, off, spot⟩ := a
      have hspot : spot = none := by
        have := World.cell?_spot (hq 0 (by omega)).2.1
        simpa [Addr.add] using this
      subst hspot
      refine ⟨b, off, rfl, fun j hj => ?_⟩
      have hj' : j < len := by simpa using hj
      obtain ⟨_, c0, c1, c2, c3, c4, c5, c6⟩ := hq j (by omega)
      rw [WideShapes.add_plain, WideShapes.add_plain] at c0 c1 c2 c3 c4 c5 c6
      have e : ((List.range len).map q).getD j Rc.none = q j := by simp [hj']
      rw [e]
      exact ⟨c0, c1, c2, c3, c4, c5, c6⟩
theorem cells_pp : Try.prog.cellsOf 29 = 4 := by kernel_rfl
set_option maxRecDepth 100000 in
theorem open_pp {H : Type} {enc : TypeId × Value → H} {W : World} {n : Nat} {a : Addr} {i : Nat} {x : DataW H × List MemPlace} {cs' : List Value} (h1 : W.cells? 0 (a.add (i * Try.prog.cellsOf 29)) (Try.prog.cellsOf 29) = some cs')
    (h2 : DataW.trod enc Try.prog W 0 (fun _ => true) true n 29 cs' = some x) :
    ∃ s : Pp, s.Ok ∧ W.cell? ((a.add (i * 4)).add 0) = some (.string s.key) ∧ W.cell? ((a.add (i * 4)).add 1) = some (.string s.val) ∧ W.cell? ((a.add (i * 4)).add 2) = some (.int .i64 s.off) ∧ W.cell? ((a.add (i * 4)).add 3) = some (.int .i64 s.time) := by
  rw [cells_pp] at h1
  obtain ⟨_, hlen0, hcell⟩ := World.cells?_some h1
  obtain ⟨xs, m, _, hx, hl, hlen, hf⟩ := DataW.trod_struct Try.underlying29 h2
  rw [cells_pp] at hl
  have hlen : xs.length = 4 := hlen
  match cs', hl with
  | [v0, v1, v2, v3], _ =>
    match xs, hlen with
    | [y0, y1, y2, y3], _ =>
      have k0 : DataW.trod enc Try.prog W 0 (fun _ => true) true m 9 [v0] = some y0 := by simpa [cells_9] using hf 0 _ rfl
      have k1 : DataW.trod enc Try.prog W 0 (fun _ => true) true m 9 [v1] = some y1 := by simpa [cells_9] using hf 1 _ rfl
      have k2 : DataW.trod enc Try.prog W 0 (fun _ => true) true m 2 [v2] = some y2 := by simpa [cells_2] using hf 2 _ rfl
      have k3 : DataW.trod enc Try.prog W 0 (fun _ => true) true m 2 [v3] = some y3 := by simpa [cells_2] using hf 3 _ rfl
      obtain ⟨s0, e0, _, w0⟩ := DataW.trod_string Try.underlying9 k0
      obtain ⟨s1, e1, _, w1⟩ := DataW.trod_string Try.underlying9 k1
      obtain ⟨n2, e2, _, w2⟩ := DataW.trod_int Try.underlying2 k2
      obtain ⟨n3, e3, _, w3⟩ := DataW.trod_int Try.underlying2 k3
      simp only [List.cons.injEq, and_true] at e0 e1 e2 e3
      subst e0 e1 e2 e3
      exact ⟨⟨s0, s1, n2, n3⟩, ⟨w0, w1, wf_i64 w2, wf_i64 w3⟩, by simpa using hcell 0 (by omega), by simpa using hcell 1 (by omega), by simpa using hcell 2 (by omega), by simpa using hcell 3 (by omega)⟩

theorem open_ppsN {H : Type} {enc : TypeId × Value → H} {W : World} {fuel : Nat} {v : Value} {x : DataW H × List MemPlace} (h : DataW.trod enc Try.prog W 0 (fun _ => true) true fuel 22 [v] = some x)
    (hsz : ∀ el sp, x.1 = .slice el sp → el.length + sp.length ≤ 1048576) : ∃ st : List Pp, PpsAt W v st ∧ st.length ≤ 1048576 := by
  rcases open_slice Try.underlying22 h with ⟨hcs, hx⟩ | ⟨a, len, cap, m, n, D, Pl, hcs, hb, hl, hm, hmm, hx, hel⟩
  · simp at hcs
    subst hcs
    exact ⟨[], ⟨none, 0, rfl, by simp, by simp, by simp⟩, by simp⟩
  · simp at hcs
    subst hcs
    simp only [if_true] at hmm
    subst hmm
    have each : ∀ i, i < m → ∃ s : Pp, s.Ok ∧ W.cell? ((a.add (i * 4)).add 0) = some (.string s.key) ∧ W.cell? ((a.add (i * 4)).add 1) = some (.string s.val) ∧ W.cell? ((a.add (i * 4)).add 2) = some (.int .i64 s.off) ∧ W.cell? ((a.add (i * 4)).add 3) = some (.int .i64 s.time) := by
      intro i hi
      obtain ⟨cs', h1, h2⟩ := hel i hi
      exact open_pp h1 h2
    have iSt : Inhabited Pp := ⟨Pp.zero⟩
    obtain ⟨q, hq⟩ := choose_lt each
    have hbig : len ≤ 1048576 := by
      have := hsz _ _ (by rw [hx])
      simp at this
      omega
    refine ⟨(List.range len).map q, ⟨some a, m, by simp, by simp; omega, ?_, ?_⟩, by simpa using hbig⟩
    · intro s hs
      obtain ⟨i, hi, rfl⟩ := List.mem_map.mp hs
      exact (hq i (by have := List.mem_range.mp hi; omega)).1
    · intro hne
      have hlen : 0 < len := by
        rcases Nat.eq_zero_or_pos len with rfl | h
        · simp at hne
        · exact h
      obtain ⟨b, off, spot⟩ := a
      have hspot : spot = none := by
        have := World.cell?_spot (hq 0 (by omega)).2.1
        simpa [Addr.add] using this
      subst hspot
      refine ⟨b, off, rfl, fun j hj => ?_⟩
      have hj' : j < len := by simpa using hj
      obtain ⟨_, c0, c1, c2, c3⟩ := hq j (by omega)
      rw [WideShapes.add_plain, WideShapes.add_plain] at c0 c1 c2 c3
      have e : ((List.range len).map q).getD j Pp.zero = q j := by simp [hj']
      rw [e]
      exact ⟨c0, c1, c2, c3⟩
end Go.Proofs.Ytpclicimakgpdaa
