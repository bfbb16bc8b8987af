import Derived.Test.YtlnppgjppfkocaaGreatDoorGq05
import Derived.Test.YtlnppgjppfkocaaGreatDoorGq13
import Derived.Test.YtlnppgjppfkocaaGreatDoorRows
import Derived.ProofKit
import Derived.OpenShut
import Derived.SizedLaws
import Derived.Deep.Slices
import Derived.Deep.Strs
import Derived.SliceStrings
/-! Responses that came in, within the bulk. -/
namespace Go.Proofs.YtlnppgjppfkocaaGreatDoor.Xs
open Go.RowKit Go.Deep Go.ChangeShapes Go.WideShapes Go.ChangeAt Plain
set_option linter.unusedVariables false
set_option linter.unusedSimpArgs false

theorem bulk_pos {H : Type} (d : DataW H) : 1 ≤ Rows.uptoBulk d := by
  cases d with
  | lit l => cases l <;> simp [Rows.uptoBulk]
  | _ => simp [Rows.uptoBulk]
theorem bulk_len {H : Type} : ∀ ds : List (DataW H), ds.length ≤ Rows.uptoBulkAll ds
  | [] => by simp
  | d :: r => by
    have h1 := bulk_pos d
    have h2 := bulk_len r
    simp only [Rows.uptoBulkAll, List.length_cons]
    omega
theorem bulk_mem {H : Type} : ∀ {ds : List (DataW H)} {d : DataW H}, d ∈ ds → Rows.uptoBulk d ≤ Rows.uptoBulkAll ds
  | [], d, h => by simp at h
  | x :: r, d, h => by
    simp only [Rows.uptoBulkAll]
    rcases List.mem_cons.mp h with rfl | h
    · omega
    · have := bulk_mem h; omega
theorem bulk_part {H : Type} {parts : List (DataW H)} {d : DataW H} (h : d ∈ parts) : Rows.uptoBulk d ≤ Rows.uptoBulk (.agg parts) := by
  have := bulk_mem h
  simp only [Rows.uptoBulk]
  omega
theorem bulk_elem {H : Type} {el sp : List (DataW H)} {d : DataW H} (h : d ∈ el) : Rows.uptoBulk d ≤ Rows.uptoBulk (.slice el sp) := by
  have := bulk_mem h
  simp only [Rows.uptoBulk]
  omega
theorem bulk_slice2 {H : Type} {el sp : List (DataW H)} (h : Rows.uptoBulk (.slice el sp) ≤ 1048576) : el.length + sp.length ≤ 1048576 := by
  simp only [Rows.uptoBulk] at h
  have h1 := bulk_len el
  have h2 := bulk_len sp
  omega
theorem bulk_str {H : Type} {s : List UInt8} (h : Rows.uptoBulk (DataW.lit (Lit.string s) : DataW H) ≤ 1048576) : s.length ≤ 1048576 := by
  simp only [Rows.uptoBulk] at h
  omega
theorem ba_listR (s : ByteArray) : ba s.data.toList = s := by
  apply ByteArray.ext
  simp [ba]
theorem wfR {z : Int} (h : (Lit.int .i64 z).wf = true) : I64 z := by
  have := bounds_i64 h
  unfold I64
  omega
theorem cells_2r : Tryz.prog.cellsOf 2 = 1 := by kernel_rfl
theorem cells_3r : Tryz.prog.cellsOf 3 = 1 := by kernel_rfl
theorem cells_4r : Tryz.prog.cellsOf 4 = 1 := by kernel_rfl
theorem cells_9r : Tryz.prog.cellsOf 9 = 1 := by kernel_rfl
theorem cells_U32r : Tryz.prog.cellsOf 22 = 1 := by kernel_rfl
theorem cells_SSr : Tryz.prog.cellsOf 43 = 1 := by kernel_rfl
theorem cells_RSr : Tryz.prog.cellsOf 42 = 1 := by kernel_rfl
theorem cells_RECr : Tryz.prog.cellsOf 73 = 7 := by kernel_rfl
theorem cells_RPr : Tryz.prog.cellsOf 45 = 8 := by kernel_rfl
set_option maxRecDepth 100000 in
theorem open_sr {H : Type} {enc : TypeId × Value → H} {W : World} {n : Nat} {a : Addr} {i : Nat} {x : DataW H × List MemPlace} {cs' : List Value} (h1 : W.cells? 0 (a.add (i * Tryz.prog.cellsOf 73)) (Tryz.prog.cellsOf 73) = some cs')
    (h2 : DataW.trod enc Tryz.prog W 0 (fun _ => true) true n 73 cs' = some x) (hbk : Rows.uptoBulk x.1 ≤ 1048576) :
    ∃ s : Sr, (s.Ok ∧ s.key.length ≤ 1048576 ∧ s.value.length ≤ 1048576) ∧ W.cell? ((a.add (i * 7)).add 0) = some (.int .i64 s.kind) ∧ W.cell? ((a.add (i * 7)).add 1) = some (.int .i64 s.offset) ∧ W.cell? ((a.add (i * 7)).add 2) = some (.int .i64 s.time) ∧ W.cell? ((a.add (i * 7)).add 3) = some (.int .i64 s.pid) ∧
      W.cell? ((a.add (i * 7)).add 4) = some (.int .i64 s.seq) ∧ W.cell? ((a.add (i * 7)).add 5) = some (.string (ba s.key)) ∧ W.cell? ((a.add (i * 7)).add 6) = some (.string (ba s.value)) := by
  rw [cells_RECr] at h1
  obtain ⟨_, hlen0, hcell⟩ := World.cells?_some h1
  obtain ⟨xs, m, _, hx, hl, hlen, hf⟩ := DataW.trod_struct Tryz.underlying73 h2
  rw [cells_RECr] at hl
  have hlen : xs.length = 7 := hlen
  match cs', hl with
  | [v0, v1, v2, v3, v4, v5, v6], _ =>
    match xs, hlen with
    | [y0, y1, y2, y3, y4, y5, y6], _ =>
      have k0 : DataW.trod enc Tryz.prog W 0 (fun _ => true) true m 3 [v0] = some y0 := by simpa [cells_3r] using hf 0 _ rfl
      have k1 : DataW.trod enc Tryz.prog W 0 (fun _ => true) true m 2 [v1] = some y1 := by simpa [cells_2r] using hf 1 _ rfl
      have k2 : DataW.trod enc Tryz.prog W 0 (fun _ => true) true m 2 [v2] = some y2 := by simpa [cells_2r] using hf 2 _ rfl
      have k3 : DataW.trod enc Tryz.prog W 0 (fun _ => true) true m 2 [v3] = some y3 := by simpa [cells_2r] using hf 3 _ rfl
      have k4 : DataW.trod enc Tryz.prog W 0 (fun _ => true) true m 2 [v4] = some y4 := by simpa [cells_2r] using hf 4 _ rfl
      have k5 : DataW.trod enc Tryz.prog W 0 (fun _ => true) true m 9 [v5] = some y5 := by simpa [cells_9r] using hf 5 _ rfl
      have k6 : DataW.trod enc Tryz.prog W 0 (fun _ => true) true m 9 [v6] = some y6 := by simpa [cells_9r] using hf 6 _ rfl
      obtain ⟨n0, e0, _, w0⟩ := DataW.trod_int Tryz.underlying3 k0
      obtain ⟨n1, e1, _, w1⟩ := DataW.trod_int Tryz.underlying2 k1
      obtain ⟨n2, e2, _, w2⟩ := DataW.trod_int Tryz.underlying2 k2
      obtain ⟨n3, e3, _, w3⟩ := DataW.trod_int Tryz.underlying2 k3
      obtain ⟨n4, e4, _, w4⟩ := DataW.trod_int Tryz.underlying2 k4
      obtain ⟨s5, e5, f5, w5⟩ := DataW.trod_string Tryz.underlying9 k5
      obtain ⟨s6, e6, f6, w6⟩ := DataW.trod_string Tryz.underlying9 k6
      simp only [List.cons.injEq, and_true] at e0 e1 e2 e3 e4 e5 e6
      subst e0 e1 e2 e3 e4 e5 e6
      have hx1 : x.1 = .agg [y0.1, y1.1, y2.1, y3.1, y4.1, y5.1, y6.1] := by rw [hx]; rfl
      rw [hx1] at hbk
      have z5 : s5.data.toList.length ≤ 1048576 := bulk_str (H := H) (by
        have e : y5.1 = .lit (.string s5.data.toList) := by rw [f5]
        have := Nat.le_trans (bulk_part (d := y5.1) (parts := [y0.1, y1.1, y2.1, y3.1, y4.1, y5.1, y6.1]) (by simp)) hbk
        rw [e] at this
        exact this)
      have z6 : s6.data.toList.length ≤ 1048576 := bulk_str (H := H) (by
        have e : y6.1 = .lit (.string s6.data.toList) := by rw [f6]
        have := Nat.le_trans (bulk_part (d := y6.1) (parts := [y0.1, y1.1, y2.1, y3.1, y4.1, y5.1, y6.1]) (by simp)) hbk
        rw [e] at this
        exact this)
      refine ⟨⟨n0, n1, n2, n3, n4, s5.data.toList, s6.data.toList⟩, ⟨⟨wfR w0, wfR w1, wfR w2, wfR w3, wfR w4, Nat.le_trans z5 (by omega), Nat.le_trans z6 (by omega)⟩, z5, z6⟩, by simpa using hcell 0 (by omega), by simpa using hcell 1 (by omega), by simpa using hcell 2 (by omega), by simpa using hcell 3 (by omega), by simpa using hcell 4 (by omega), ?_, ?_⟩
      · simpa [ba_listR] using hcell 5 (by omega)
      · simpa [ba_listR] using hcell 6 (by omega)
theorem open_srs {H : Type} {enc : TypeId × Value → H} {W : World} {fuel : Nat} {v : Value} {x : DataW H × List MemPlace} (h : DataW.trod enc Tryz.prog W 0 (fun _ => true) true fuel 42 [v] = some x)
    (hbk : Rows.uptoBulk x.1 ≤ 1048576) : ∃ st : List Sr, SrsAt W v st ∧ st.length ≤ 1048576 ∧ ∀ s ∈ st, s.key.length ≤ 1048576 ∧ s.value.length ≤ 1048576 := by
  rcases open_slice Tryz.underlying42 h with ⟨hcs, hx⟩ | ⟨a, len, cap, m, n, D, Pl, hcs, hb, hl, hm, hmm, hx, hel⟩
  · simp at hcs
    subst hcs
    exact ⟨[], ⟨none, 0, rfl, by simp, by simp, by simp, by simp⟩, by simp, by simp⟩
  · simp at hcs
    subst hcs
    simp only [if_true] at hmm
    subst hmm
    have each : ∀ i, i < len → ∃ s : Sr, (s.Ok ∧ s.key.length ≤ 1048576 ∧ s.value.length ≤ 1048576) ∧ W.cell? ((a.add (i * 7)).add 0) = some (.int .i64 s.kind) ∧ W.cell? ((a.add (i * 7)).add 1) = some (.int .i64 s.offset) ∧ W.cell? ((a.add (i * 7)).add 2) = some (.int .i64 s.time) ∧ W.cell? ((a.add (i * 7)).add 3) = some (.int .i64 s.pid) ∧
      W.cell? ((a.add (i * 7)).add 4) = some (.int .i64 s.seq) ∧ W.cell? ((a.add (i * 7)).add 5) = some (.string (ba s.key)) ∧ W.cell? ((a.add (i * 7)).add 6) = some (.string (ba s.value)) := by
      intro i hi
      obtain ⟨cs', h1, h2⟩ := hel i (by omega)
      refine open_sr h1 h2 ?_
      rw [hx] at hbk
      exact Nat.le_trans (bulk_elem (List.mem_map.mpr ⟨i, List.mem_range.mpr hi, rfl⟩)) hbk
    have iSt : Inhabited Sr := ⟨Sr.none⟩
    obtain ⟨q, hq⟩ := choose_lt each
    have hbig : len ≤ 1048576 := by
      rw [hx] at hbk
      have := bulk_slice2 hbk
      simp at this
      omega
    refine ⟨(List.range len).map q, ⟨some a, m, by simp, by simpa using hl, by simp; omega, ?_, ?_⟩, by simpa using hbig, ?_⟩
    · intro s hs
      obtain ⟨i, hi, rfl⟩ := List.mem_map.mp hs
      exact (hq i (List.mem_range.mp hi)).1.1
    · intro hne
      have hlen : 0 < len := by
        rcases Nat.eq_zero_or_pos len with rfl | h
        · simp at hne
        · exact h
      obtain ⟨b, off, spot⟩ := a
      have hspot : spot = none := by
        have := World.cell?_spot (hq 0 (by omega)).2.1
        simpa [Addr.add] using this
      subst hspot
      refine ⟨b, off, rfl, fun j hj => ?_⟩
      have hj' : j < len := by simpa using hj
      obtain ⟨_, c0, c1, c2, c3, c4, c5, c6⟩ := hq j (by omega)
      rw [WideShapes.add_plain, WideShapes.add_plain] at c0 c1 c2 c3 c4 c5 c6
      have e : ((List.range len).map q).getD j Sr.none = q j := by simp [hj']
      rw [e]
      exact ⟨c0, c1, c2, c3, c4, c5, c6⟩
    · intro s hs
      obtain ⟨i, hi, rfl⟩ := List.mem_map.mp hs
      exact (hq i (List.mem_range.mp hi)).1.2
theorem open_nms {H : Type} {enc : TypeId × Value → H} {W : World} {fuel : Nat} {v : Value} {x : DataW H × List MemPlace} (h : DataW.trod enc Tryz.prog W 0 (fun _ => true) true fuel 43 [v] = some x)
    (hbk : Rows.uptoBulk x.1 ≤ 1048576) : ∃ st : List By, NmsAt W v st ∧ st.length ≤ 1048576 ∧ ∀ s ∈ st, s.length ≤ 1048576 := by
  rcases open_strings Tryz.underlying43 Tryz.underlying9 cells_9r h with ⟨hcs, hx⟩ | ⟨a, len, cap, ss, hcs, hb, hl, hm, hsl, hx, hcell, hlen⟩
  · simp at hcs
    subst hcs
    exact ⟨[], ⟨none, 0, rfl, by simp, by simp, by simp, by simp⟩, by simp, by simp⟩
  · simp at hcs
    subst hcs
    simp only [if_true] at hsl
    rw [hx] at hbk
    have hsm := bulk_slice2 hbk
    simp only [strs, List.length_map] at hsm
    have htk : (ss.take len).length = len := by simp; omega
    have hbig : len ≤ 1048576 := by omega
    have hall : ∀ s ∈ (ss.take len).map (fun s => s.data.toList), s.length ≤ 1048576 := by
      intro s hs
      obtain ⟨z, hz, rfl⟩ := List.mem_map.mp hs
      exact bulk_str (H := H) (Nat.le_trans (bulk_elem (List.mem_map.mpr ⟨z, hz, rfl⟩)) hbk)
    refine ⟨(ss.take len).map (fun s => s.data.toList), ⟨some a, cap, by simp only [List.length_map, htk], by simp only [List.length_map, htk]; exact hl, by simp only [List.length_map, htk]; omega, fun s hs => Nat.le_trans (hall s hs) (by omega), fun hne => ?_⟩, by simp only [List.length_map, htk]; exact hbig, hall⟩
    obtain ⟨b, off, spot⟩ := a
    have hl0 : 0 < len := by
      rcases Nat.eq_zero_or_pos len with h0 | h0
      · rw [h0] at hne; simp at hne
      · exact h0
    have hspot : spot = none := by
      have := World.cell?_spot (hcell 0 (by omega))
      simpa [Addr.add] using this
    subst hspot
    refine ⟨b, off, rfl, fun j hj => ?_⟩
    have hj' : j < len := by
      simp at hj
      omega
    have c := hcell j (by omega)
    rw [WideShapes.add_plain] at c
    rw [c]
    have hjs : j < ss.length := by omega
    have e : ((ss.take len).map (fun s => s.data.toList)).getD j [] = (ss.getD j ByteArray.empty).data.toList := by
      simp [List.getD_eq_getElem?_getD, hj', hjs]
    rw [e, ba_listR]
/-- A response that came in, within the bulk. -/
def RpIn (W : World) (v : Value) : Prop := ∃ (r : Rp) (vr vn : Value), v = rpV r vr vn ∧ SrsAt W vr r.recs ∧ NmsAt W vn r.names ∧ r.Ok ∧ r.names.length ≤ 1048576 ∧ r.recs.length ≤ 1048576 ∧ (∀ s ∈ r.names, s.length ≤ 1048576) ∧ (∀ s ∈ r.recs, s.key.length ≤ 1048576 ∧ s.value.length ≤ 1048576)
set_option maxRecDepth 100000 in
theorem open_rp {H : Type} {enc : TypeId × Value → H} {W : World} {base : Nat} {v : Value} {d : DataW H} {p : List MemPlace} (hv : Value.okWide Tryz.prog W .any base 45 v) (h : DataW.Trod enc Tryz.prog W 0 (fun _ => true) true 45 v d p) (hbk : Rows.uptoBulk d ≤ 1048576) : RpIn W v := by
  obtain ⟨cs, rfl, hs⟩ := okWide_struct Tryz.underlying45 hv
  obtain ⟨v0, v1, v2, v3, v4, v5, v6, v7, rfl⟩ : ∃ v0 v1 v2 v3 v4 v5 v6 v7, cs = #[v0, v1, v2, v3, v4, v5, v6, v7] := by
    obtain ⟨l⟩ := cs
    match l, hs.trans cells_RPr with
    | [c0, c1, c2, c3, c4, c5, c6, c7], _ => exact ⟨c0, c1, c2, c3, c4, c5, c6, c7, rfl⟩
  obtain ⟨fuel, hf⟩ := h
  obtain ⟨xs, m, _, hx, hl, hlen, hfs⟩ := DataW.trod_struct Tryz.underlying45 hf
  have hlen : xs.length = 8 := hlen
  match xs, hlen with
  | [y0, y1, y2, y3, y4, y5, y6, y7], _ =>
    have k0 : DataW.trod enc Tryz.prog W 0 (fun _ => true) true m 22 [v0] = some y0 := by simpa [Value.cells, cells_3r, cells_2r, cells_4r, cells_U32r, cells_SSr, cells_RSr] using hfs 0 _ rfl
    have k1 : DataW.trod enc Tryz.prog W 0 (fun _ => true) true m 3 [v1] = some y1 := by simpa [Value.cells, cells_3r, cells_2r, cells_4r, cells_U32r, cells_SSr, cells_RSr] using hfs 1 _ rfl
    have k2 : DataW.trod enc Tryz.prog W 0 (fun _ => true) true m 3 [v2] = some y2 := by simpa [Value.cells, cells_3r, cells_2r, cells_4r, cells_U32r, cells_SSr, cells_RSr] using hfs 2 _ rfl
    have k3 : DataW.trod enc Tryz.prog W 0 (fun _ => true) true m 2 [v3] = some y3 := by simpa [Value.cells, cells_3r, cells_2r, cells_4r, cells_U32r, cells_SSr, cells_RSr] using hfs 3 _ rfl
    have k4 : DataW.trod enc Tryz.prog W 0 (fun _ => true) true m 2 [v4] = some y4 := by simpa [Value.cells, cells_3r, cells_2r, cells_4r, cells_U32r, cells_SSr, cells_RSr] using hfs 4 _ rfl
    have k5 : DataW.trod enc Tryz.prog W 0 (fun _ => true) true m 4 [v5] = some y5 := by simpa [Value.cells, cells_3r, cells_2r, cells_4r, cells_U32r, cells_SSr, cells_RSr] using hfs 5 _ rfl
    have k6 : DataW.trod enc Tryz.prog W 0 (fun _ => true) true m 42 [v6] = some y6 := by simpa [Value.cells, cells_3r, cells_2r, cells_4r, cells_U32r, cells_SSr, cells_RSr] using hfs 6 _ rfl
    have k7 : DataW.trod enc Tryz.prog W 0 (fun _ => true) true m 43 [v7] = some y7 := by simpa [Value.cells, cells_3r, cells_2r, cells_4r, cells_U32r, cells_SSr, cells_RSr] using hfs 7 _ rfl
    obtain ⟨n0, e0, _, w0⟩ := DataW.trod_int Tryz.underlying22 k0
    obtain ⟨n1, e1, _, w1⟩ := DataW.trod_int Tryz.underlying3 k1
    obtain ⟨n2, e2, _, w2⟩ := DataW.trod_int Tryz.underlying3 k2
    obtain ⟨n3, e3, _, w3⟩ := DataW.trod_int Tryz.underlying2 k3
    obtain ⟨n4, e4, _, w4⟩ := DataW.trod_int Tryz.underlying2 k4
    obtain ⟨b5, e5, _⟩ := DataW.trod_bool Tryz.underlying4 k5
    simp only [List.cons.injEq, and_true] at e0 e1 e2 e3 e4 e5
    subst e0 e1 e2 e3 e4 e5
    have hd : d = .agg [y0.1, y1.1, y2.1, y3.1, y4.1, y5.1, y6.1, y7.1] := by
      simp only [Prod.mk.injEq] at hx
      simpa using hx.1
    rw [hd] at hbk
    obtain ⟨rs, hr1, hr2, hr3⟩ := open_srs k6 (Nat.le_trans (bulk_part (parts := [y0.1, y1.1, y2.1, y3.1, y4.1, y5.1, y6.1, y7.1]) (by simp)) hbk)
    obtain ⟨ns, hn1, hn2, hn3⟩ := open_nms k7 (Nat.le_trans (bulk_part (parts := [y0.1, y1.1, y2.1, y3.1, y4.1, y5.1, y6.1, y7.1]) (by simp)) hbk)
    have b0 := bounds_u32 w0
    exact ⟨⟨n0, n1, n2, n3, n4, b5, rs, ns⟩, v6, v7, rfl, hr1, hn1, ⟨(by omega : 0 ≤ n0), (by omega : n0 ≤ 4294967295), wfR w1, wfR w2, wfR w3, wfR w4⟩, hn2, hr2, hn3, hr3⟩
end Go.Proofs.YtlnppgjppfkocaaGreatDoor.Xs
