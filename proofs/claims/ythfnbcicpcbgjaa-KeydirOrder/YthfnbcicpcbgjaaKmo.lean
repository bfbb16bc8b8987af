import Derived.Test.YthfnbcicpcbgjaaKtk
import Derived.Test.YthfnbcicpcbgjaaKr
import Derived.Test.YthfnbcicpcbgjaaRows
import Derived.ProofKit
import Derived.OpenShut
import Derived.SizedLaws
import Derived.Deep.Slices
import Derived.Deep.Strs
import Derived.SliceStrings
/-! keydir: slices of keys with entries, and of texts, that came in. -/
namespace Go.Proofs.Ythfnbcicpcbgjaa
open Go.RowKit Go.Deep Go.ChangeShapes Go.WideShapes Go.ChangeAt Plain
set_option linter.unusedVariables false

theorem cells_en : Try.prog.cellsOf 26 = 6 := by kernel_rfl
theorem cells_ke : Try.prog.cellsOf 28 = 7 := by kernel_rfl
theorem cells_2 : Try.prog.cellsOf 2 = 1 := by kernel_rfl
theorem cells_3 : Try.prog.cellsOf 3 = 1 := by kernel_rfl
theorem cells_4 : Try.prog.cellsOf 4 = 1 := by kernel_rfl
theorem cells_9 : Try.prog.cellsOf 9 = 1 := by kernel_rfl
theorem bytes_ke : Try.prog.bytesOf 28 = 64 := by kernel_rfl
theorem bytes_9 : Try.prog.bytesOf 9 = 16 := by kernel_rfl

theorem wf_i64 {z : Int} (h : (Lit.int .i64 z).wf = true) : I64 z := by
  have := bounds_i64 h
  unfold I64
  omega

set_option maxRecDepth 100000 in
theorem open_en {H : Type} {enc : TypeId × Value → H} {W : World} {n : Nat} {x : DataW H × List MemPlace} {cs' : List Value}
    (h2 : DataW.trod enc Try.prog W 0 (fun _ => true) true n 26 cs' = some x) :
    ∃ (a b c d t : Int) (m : Bool), cs' = [.int .i64 a, .int .i64 b, .int .i64 c, .int .i64 d, .int .i64 t, .bool m] ∧ I64 a ∧ I64 b ∧ I64 c ∧ I64 d ∧ I64 t := by
  obtain ⟨xs, m, _, hx, hl, hlen, hf⟩ := DataW.trod_struct Try.underlying26 h2
  rw [cells_en] at hl
  have hlen : xs.length = 6 := hlen
  match cs', hl with
  | [v0, v1, v2, v3, v4, v5], _ =>
    match xs, hlen with
    | [y0, y1, y2, y3, y4, y5], _ =>
      have k0 : DataW.trod enc Try.prog W 0 (fun _ => true) true m 3 [v0] = some y0 := by simpa [cells_3] using hf 0 _ rfl
      have k1 : DataW.trod enc Try.prog W 0 (fun _ => true) true m 3 [v1] = some y1 := by simpa [cells_3] using hf 1 _ rfl
      have k2 : DataW.trod enc Try.prog W 0 (fun _ => true) true m 3 [v2] = some y2 := by simpa [cells_3] using hf 2 _ rfl
      have k3 : DataW.trod enc Try.prog W 0 (fun _ => true) true m 2 [v3] = some y3 := by simpa [cells_2] using hf 3 _ rfl
      have k4 : DataW.trod enc Try.prog W 0 (fun _ => true) true m 2 [v4] = some y4 := by simpa [cells_2] using hf 4 _ rfl
      have k5 : DataW.trod enc Try.prog W 0 (fun _ => true) true m 4 [v5] = some y5 := by simpa [cells_4] using hf 5 _ rfl
      obtain ⟨n0, e0, _, w0⟩ := DataW.trod_int Try.underlying3 k0
      obtain ⟨n1, e1, _, w1⟩ := DataW.trod_int Try.underlying3 k1
      obtain ⟨n2, e2, _, w2⟩ := DataW.trod_int Try.underlying3 k2
      obtain ⟨n3, e3, _, w3⟩ := DataW.trod_int Try.underlying2 k3
      obtain ⟨n4, e4, _, w4⟩ := DataW.trod_int Try.underlying2 k4
      obtain ⟨b5, e5, _⟩ := DataW.trod_bool Try.underlying4 k5
      simp only [List.cons.injEq, and_true] at e0 e1 e2 e3 e4 e5
      subst e0 e1 e2 e3 e4 e5
      exact ⟨n0, n1, n2, n3, n4, b5, rfl, wf_i64 w0, wf_i64 w1, wf_i64 w2, wf_i64 w3, wf_i64 w4⟩

set_option maxRecDepth 100000 in
theorem open_kr {H : Type} {enc : TypeId × Value → H} {W : World} {n : Nat} {a : Addr} {i : Nat} {x : DataW H × List MemPlace} {cs' : List Value} (h1 : W.cells? 0 (a.add (i * Try.prog.cellsOf 28)) (Try.prog.cellsOf 28) = some cs')
    (h2 : DataW.trod enc Try.prog W 0 (fun _ => true) true n 28 cs' = some x) :
    ∃ s : Kr, s.Ok ∧ W.cell? ((a.add (i * 7)).add 0) = some (.string s.key) ∧ W.cell? ((a.add (i * 7)).add 1) = some (.int .i64 s.seg) ∧ W.cell? ((a.add (i * 7)).add 2) = some (.int .i64 s.pos) ∧ W.cell? ((a.add (i * 7)).add 3) = some (.int .i64 s.size) ∧
      W.cell? ((a.add (i * 7)).add 4) = some (.int .i64 s.off) ∧ W.cell? ((a.add (i * 7)).add 5) = some (.int .i64 s.time) ∧ W.cell? ((a.add (i * 7)).add 6) = some (.bool s.tomb) := by
  rw [cells_ke] at h1
  obtain ⟨_, hlen0, hcell⟩ := World.cells?_some h1
  obtain ⟨xs, m, _, hx, hl, hlen, hf⟩ := DataW.trod_struct Try.underlying28 h2
  rw [cells_ke] at hl
  have hlen : xs.length = 2 := hlen
  match cs', hl with
  | [v0, v1, v2, v3, v4, v5, v6], _ =>
    match xs, hlen with
    | [y0, y1], _ =>
      have k0 : DataW.trod enc Try.prog W 0 (fun _ => true) true m 9 [v0] = some y0 := by simpa [cells_9] using hf 0 _ rfl
      have k1 : DataW.trod enc Try.prog W 0 (fun _ => true) true m 26 [v1, v2, v3, v4, v5, v6] = some y1 := by simpa [cells_9, cells_en] using hf 1 _ rfl
      obtain ⟨s0, e0, _, w0⟩ := DataW.trod_string Try.underlying9 k0
      obtain ⟨n1, n2, n3, n4, n5, b6, e1, q1, q2, q3, q4, q5⟩ := open_en k1
      simp only [List.cons.injEq, and_true] at e0 e1
      obtain ⟨rfl, rfl, rfl, rfl, rfl, rfl⟩ := e1
      subst e0
      exact ⟨⟨s0, n1, n2, n3, n4, n5, b6⟩, ⟨w0, q1, q2, q3, q4, q5, trivial⟩, by simpa using hcell 0 (by omega), by simpa using hcell 1 (by omega), by simpa using hcell 2 (by omega), by simpa using hcell 3 (by omega), by simpa using hcell 4 (by omega), by simpa using hcell 5 (by omega), by simpa using hcell 6 (by omega)⟩

theorem open_krs {H : Type} {enc : TypeId × Value → H} {W : World} {fuel : Nat} {v : Value} {x : DataW H × List MemPlace} (h : DataW.trod enc Try.prog W 0 (fun _ => true) true fuel 24 [v] = some x)
    (hsz : ∀ el sp, x.1 = .slice el sp → (el.length + sp.length) * Try.prog.bytesOf 28 ≤ reachBytes) : ∃ st : List Kr, KrsAt W v st := by
  rcases open_slice Try.underlying24 h with ⟨hcs, hx⟩ | ⟨a, len, cap, m, n, D, PP, hcs, hb, hl, hm, hmm, hx, hel⟩
  · simp at hcs
    subst hcs
    exact ⟨[], ⟨none, 0, rfl, by simp, by simp, by simp⟩⟩
  · simp at hcs
    subst hcs
    simp only [if_true] at hmm
    subst hmm
    have each := fun i hi => (hel i hi).elim fun cs' h12 => open_kr (i := i) h12.1 h12.2
    have iSt : Inhabited Kr := ⟨Kr.zero⟩
    obtain ⟨q, hq⟩ := choose_lt each
    have hbig : len ≤ 2199023255500 := by
      have := hsz _ _ (by rw [hx])
      rw [bytes_ke] at this
      simp [reachBytes] at this
      omega
    refine ⟨(List.range len).map q, ⟨some a, m, by simp, by simpa using hbig, ?_, ?_⟩⟩
    · intro s hs
      obtain ⟨i, hi, rfl⟩ := List.mem_map.mp hs
      exact (hq i (by have := List.mem_range.mp hi; omega)).1
    · intro hne
      have hlen : 0 < len := by
        rcases Nat.eq_zero_or_pos len with rfl | h
        · simp at hne
        · exact h
      obtain ⟨b, off, spot⟩ := a
      have hspot : spot = none := by
        have := World.cell?_spot (hq 0 (by omega)).2.1
        simpa [Addr.add] using this
      subst hspot
      refine ⟨b, off, rfl, fun j hj => ?_⟩
      have hj' : j < len := by simpa using hj
      obtain ⟨_, c0, c1, c2, c3, c4, c5, c6⟩ := hq j (by omega)
      rw [WideShapes.add_plain, WideShapes.add_plain] at c0 c1 c2 c3 c4 c5 c6
      have e : ((List.range len).map q).getD j Kr.zero = q j := by simp [hj']
      rw [e]
      exact ⟨c0, c1, c2, c3, c4, c5, c6⟩

/-- v is a slice of texts that reads as ss. -/
def TxtsAt (w : World) (v : Value) (ss : List ByteArray) : Prop :=
  ∃ a cap, v = .slice a ss.length cap ∧ ss.length ≤ 8796093022208 ∧ (∀ s ∈ ss, s.size ≤ maxLen) ∧ (ss ≠ [] → ∃ b off, a = some ⟨b, off, none⟩ ∧ ∀ j, j < ss.length → w.cell? ⟨b, off + j, none⟩ = some (.string (ss.getD j ⟨#[]⟩)))
theorem TxtsAt.later {w w' : World} {v : Value} {ss : List ByteArray} (h : TxtsAt w v ss) (hb : Below w.heap.size w w') : TxtsAt w' v ss := by
  obtain ⟨a, cap, e, h1, h2, h3⟩ := h
  refine ⟨a, cap, e, h1, h2, fun hne => ?_⟩
  obtain ⟨b, off, e2, hc⟩ := h3 hne
  exact ⟨b, off, e2, fun j hj => (hb.cell (p := ⟨b, off + j, none⟩) (cell_lt (hc j hj))).trans (hc j hj)⟩

theorem open_txts {H : Type} {enc : TypeId × Value → H} {W : World} {fuel : Nat} {v : Value} {x : DataW H × List MemPlace} (h : DataW.trod enc Try.prog W 0 (fun _ => true) true fuel 22 [v] = some x)
    (hsz : ∀ el sp, x.1 = .slice el sp → (el.length + sp.length) * Try.prog.bytesOf 9 ≤ reachBytes) : ∃ ss : List ByteArray, TxtsAt W v ss := by
  rcases open_strings Try.underlying22 Try.underlying9 cells_9 h with ⟨hcs, hx⟩ | ⟨a, len, cap, ss, hcs, hb, hl, hm, hsl, hx, hcell, hlen⟩
  · simp at hcs
    subst hcs
    exact ⟨[], ⟨none, 0, rfl, by simp, by simp, by simp⟩⟩
  · simp at hcs
    subst hcs
    simp only [if_true] at hsl
    have hbig := hsz _ _ (by rw [hx])
    rw [bytes_9] at hbig
    have htk : (ss.take len).length = len := by simp; omega
    refine ⟨ss.take len, ⟨some a, cap, by rw [htk], ?_, fun s hs => hlen s (List.mem_of_mem_take hs), fun hne => ?_⟩⟩
    · rw [htk]
      simp [strs, reachBytes] at hbig
      omega
    · obtain ⟨b, off, spot⟩ := a
      have hl0 : 0 < len := by
        rcases Nat.eq_zero_or_pos len with h0 | h0
        · rw [h0] at hne; simp at hne
        · exact h0
      have hspot : spot = none := by
        have := World.cell?_spot (hcell 0 (by omega))
        simpa [Addr.add] using this
      subst hspot
      refine ⟨b, off, rfl, fun j hj => ?_⟩
      rw [htk] at hj
      have hc := hcell j (by omega)
      rw [WideShapes.add_plain] at hc
      rw [hc]
      have e : (ss.take len).getD j ⟨#[]⟩ = ss.getD j ByteArray.empty := by
        simp [List.getD_eq_getElem?_getD, hj]
        rfl
      rw [e]
end Go.Proofs.Ythfnbcicpcbgjaa
