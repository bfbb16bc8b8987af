import Derived.Test.YtpeejgnkdoeijaaMcV
import Derived.Test.YtpeejgnkdoeijaaRows
import Derived.ProofKit
import Derived.OpenShut
import Derived.SizedLaws
import Derived.ChangeSlices
import Derived.Deep.Slices
import Derived.Deep.Strs
import Derived.Lib.SmallJoins
/-! manifest: manifests and catalogues that came in. -/
namespace Go.Proofs.Ytpeejgnkdoeijaa
open Go.RowKit Go.Deep Go.ChangeShapes Go.WideShapes Go.ChangeAt Go.Joins Plain
set_option linter.unusedVariables false
set_option linter.unusedSimpArgs false

theorem cells_2 : Try.prog.cellsOf 2 = 1 := by kernel_rfl
theorem cells_3 : Try.prog.cellsOf 3 = 1 := by kernel_rfl
theorem cells_IS : Try.prog.cellsOf 22 = 1 := by kernel_rfl
theorem cells_PS : Try.prog.cellsOf 23 = 1 := by kernel_rfl
theorem cells_ES : Try.prog.cellsOf 26 = 1 := by kernel_rfl
theorem cells_MF : Try.prog.cellsOf 25 = 7 := by kernel_rfl
theorem cells_CT : Try.prog.cellsOf 28 = 2 := by kernel_rfl
theorem bytes_3 : Try.prog.bytesOf 3 = 8 := by kernel_rfl
theorem wfI {z : Int} (h : (Lit.int .i64 z).wf = true) : I64 z := by
  have := bounds_i64 h
  unfold I64
  omega
theorem weights_agg {H : Type} {P : Program} {t t' : TypeId} {fs : Array Field} {parts : List (DataW H)} {d : DataW H} {j : Nat} (hu : P.underlying t = some (.struct fs)) (ht : (fs.toList.map (·.type))[j]? = some t') (hd : parts[j]? = some d) : ∀ n ∈ d.weights P t', n ∈ (DataW.agg parts).weights P t := fun n hn => by
  simp only [DataW.weights, hu]
  exact DataW.weights_mem_each ht hd n hn
theorem weights_all {H : Type} {P : Program} {e : TypeId} : ∀ {ds : List (DataW H)} {d : DataW H}, d ∈ ds → ∀ n ∈ d.weights P e, n ∈ DataW.weightsAll P e ds
  | [], d, h, _, _ => by simp at h
  | x :: ds, d, h, n, hn => by
    simp only [DataW.weightsAll, List.mem_append]
    rcases List.mem_cons.mp h with rfl | h
    · exact .inl hn
    · exact .inr (weights_all h n hn)
theorem weights_slice {H : Type} {P : Program} {t e : TypeId} {el sp : List (DataW H)} (hu : P.underlying t = some (.slice e)) : (el.length + sp.length) * P.bytesOf e ∈ (DataW.slice el sp).weights P t := by simp [DataW.weights, hu]
theorem weights_elem {H : Type} {P : Program} {t e : TypeId} {el sp : List (DataW H)} (hu : P.underlying t = some (.slice e)) {d : DataW H} (hd : d ∈ el) : ∀ n ∈ d.weights P e, n ∈ (DataW.slice el sp).weights P t := fun n hn => by
  simp only [DataW.weights, hu, List.mem_cons, List.mem_append]
  exact .inr (.inl (weights_all hd n hn))

theorem cells_pr : Try.prog.cellsOf 56 = 3 := by kernel_rfl
theorem bytes_pr : Try.prog.bytesOf 56 = 24 := by kernel_rfl
set_option maxRecDepth 100000 in
theorem open_pr {H : Type} {enc : TypeId × Value → H} {W : World} {n : Nat} {a : Addr} {i : Nat} {x : DataW H × List MemPlace} {cs' : List Value} (h1 : W.cells? 0 (a.add (i * Try.prog.cellsOf 56)) (Try.prog.cellsOf 56) = some cs')
    (h2 : DataW.trod enc Try.prog W 0 (fun _ => true) true n 56 cs' = some x) :
    ∃ s : Pr, s.Ok ∧ W.cell? ((a.add (i * 3)).add 0) = some (.int .i64 s.pid) ∧ W.cell? ((a.add (i * 3)).add 1) = some (.int .i64 s.seq) ∧ W.cell? ((a.add (i * 3)).add 2) = some (.int .i64 s.off) := by
  rw [cells_pr] at h1
  obtain ⟨_, hlen0, hcell⟩ := World.cells?_some h1
  obtain ⟨xs, m, _, hx, hl, hlen, hf⟩ := DataW.trod_struct Try.underlying56 h2
  rw [cells_pr] at hl
  have hlen : xs.length = 3 := hlen
  match cs', hl with
  | [v0, v1, v2], _ =>
    match xs, hlen with
    | [y0, y1, y2], _ =>
      have k0 : DataW.trod enc Try.prog W 0 (fun _ => true) true m 2 [v0] = some y0 := by simpa [cells_2, cells_3] using hf 0 _ rfl
      have k1 : DataW.trod enc Try.prog W 0 (fun _ => true) true m 2 [v1] = some y1 := by simpa [cells_2, cells_3] using hf 1 _ rfl
      have k2 : DataW.trod enc Try.prog W 0 (fun _ => true) true m 2 [v2] = some y2 := by simpa [cells_2, cells_3] using hf 2 _ rfl
      obtain ⟨n0, e0, _, w0⟩ := DataW.trod_int Try.underlying2 k0
      obtain ⟨n1, e1, _, w1⟩ := DataW.trod_int Try.underlying2 k1
      obtain ⟨n2, e2, _, w2⟩ := DataW.trod_int Try.underlying2 k2
      simp only [List.cons.injEq, and_true] at e0 e1 e2
      subst e0 e1 e2
      exact ⟨⟨n0, n1, n2⟩, ⟨wfI w0, wfI w1, wfI w2⟩, by simpa using hcell 0 (by omega), by simpa using hcell 1 (by omega), by simpa using hcell 2 (by omega)⟩

theorem open_prs {H : Type} {enc : TypeId × Value → H} {W : World} {fuel : Nat} {v : Value} {x : DataW H × List MemPlace} (h : DataW.trod enc Try.prog W 0 (fun _ => true) true fuel 23 [v] = some x)
    (hsz : ∀ el sp, x.1 = .slice el sp → (el.length + sp.length) * Try.prog.bytesOf 56 ≤ reachBytes) : ∃ st : List Pr, PrsAt W v st ∧ st.length ≤ 8796093021000 := by
  rcases open_slice Try.underlying23 h with ⟨hcs, hx⟩ | ⟨a, len, cap, m, n, D, PP, hcs, hb, hl, hm, hmm, hx, hel⟩
  · simp at hcs
    subst hcs
    exact ⟨[], ⟨none, 0, rfl, by simp, by simp, by simp⟩, by simp⟩
  · simp at hcs
    subst hcs
    simp only [if_true] at hmm
    subst hmm
    have each := fun i hi => (hel i hi).elim fun cs' h12 => open_pr (i := i) h12.1 h12.2
    have iSt : Inhabited Pr := ⟨Pr.zero⟩
    obtain ⟨q, hq⟩ := choose_lt each
    have hbig : len ≤ 8796093021000 := by
      have := hsz _ _ (by rw [hx])
      rw [bytes_pr] at this
      simp [reachBytes] at this
      omega
    refine ⟨(List.range len).map q, ⟨some a, m, by simp, by simp; omega, ?_, ?_⟩, by simpa using hbig⟩
    · intro s hs
      obtain ⟨i, hi, rfl⟩ := List.mem_map.mp hs
      exact (hq i (by have := List.mem_range.mp hi; omega)).1
    · intro hne
      have hlen : 0 < len := by
        rcases Nat.eq_zero_or_pos len with rfl | h
        · simp at hne
        · exact h
      obtain ⟨b, off, spot⟩ := a
      have hspot : spot = none := by
        have := World.cell?_spot (hq 0 (by omega)).2.1
        simpa [Addr.add] using this
      subst hspot
      refine ⟨b, off, rfl, fun j hj => ?_⟩
      have hj' : j < len := by simpa using hj
      obtain ⟨_, c0, c1, c2⟩ := hq j (by omega)
      rw [WideShapes.add_plain, WideShapes.add_plain] at c0 c1 c2
      have e : ((List.range len).map q).getD j Pr.zero = q j := by simp [hj']
      rw [e]
      exact ⟨c0, c1, c2⟩
theorem cells_te : Try.prog.cellsOf 58 = 4 := by kernel_rfl
theorem bytes_te : Try.prog.bytesOf 58 = 40 := by kernel_rfl
theorem cells_9 : Try.prog.cellsOf 9 = 1 := by kernel_rfl
set_option maxRecDepth 100000 in
theorem open_te {H : Type} {enc : TypeId × Value → H} {W : World} {n : Nat} {a : Addr} {i : Nat} {x : DataW H × List MemPlace} {cs' : List Value} (h1 : W.cells? 0 (a.add (i * Try.prog.cellsOf 58)) (Try.prog.cellsOf 58) = some cs')
    (h2 : DataW.trod enc Try.prog W 0 (fun _ => true) true n 58 cs' = some x) :
    ∃ s : Te, s.Ok ∧ W.cell? ((a.add (i * 4)).add 0) = some (.int .i64 s.id) ∧ W.cell? ((a.add (i * 4)).add 1) = some (.string s.name) ∧ W.cell? ((a.add (i * 4)).add 2) = some (.int .i64 s.lim) ∧ W.cell? ((a.add (i * 4)).add 3) = some (.int .i64 s.hor) := by
  rw [cells_te] at h1
  obtain ⟨_, hlen0, hcell⟩ := World.cells?_some h1
  obtain ⟨xs, m, _, hx, hl, hlen, hf⟩ := DataW.trod_struct Try.underlying58 h2
  rw [cells_te] at hl
  have hlen : xs.length = 4 := hlen
  match cs', hl with
  | [v0, v1, v2, v3], _ =>
    match xs, hlen with
    | [y0, y1, y2, y3], _ =>
      have k0 : DataW.trod enc Try.prog W 0 (fun _ => true) true m 3 [v0] = some y0 := by simpa [cells_2, cells_3, cells_9] using hf 0 _ rfl
      have k1 : DataW.trod enc Try.prog W 0 (fun _ => true) true m 9 [v1] = some y1 := by simpa [cells_2, cells_3, cells_9] using hf 1 _ rfl
      have k2 : DataW.trod enc Try.prog W 0 (fun _ => true) true m 3 [v2] = some y2 := by simpa [cells_2, cells_3, cells_9] using hf 2 _ rfl
      have k3 : DataW.trod enc Try.prog W 0 (fun _ => true) true m 2 [v3] = some y3 := by simpa [cells_2, cells_3, cells_9] using hf 3 _ rfl
      obtain ⟨n0, e0, _, w0⟩ := DataW.trod_int Try.underlying3 k0
      obtain ⟨n1, e1, _, w1⟩ := DataW.trod_string Try.underlying9 k1
      obtain ⟨n2, e2, _, w2⟩ := DataW.trod_int Try.underlying3 k2
      obtain ⟨n3, e3, _, w3⟩ := DataW.trod_int Try.underlying2 k3
      simp only [List.cons.injEq, and_true] at e0 e1 e2 e3
      subst e0 e1 e2 e3
      exact ⟨⟨n0, n1, n2, n3⟩, ⟨wfI w0, w1, wfI w2, wfI w3⟩, by simpa using hcell 0 (by omega), by simpa using hcell 1 (by omega), by simpa using hcell 2 (by omega), by simpa using hcell 3 (by omega)⟩

theorem open_tes {H : Type} {enc : TypeId × Value → H} {W : World} {fuel : Nat} {v : Value} {x : DataW H × List MemPlace} (h : DataW.trod enc Try.prog W 0 (fun _ => true) true fuel 26 [v] = some x)
    (hsz : ∀ el sp, x.1 = .slice el sp → (el.length + sp.length) * Try.prog.bytesOf 58 ≤ reachBytes) : ∃ st : List Te, TesIn W v st ∧ st.length ≤ 4398046510000 := by
  rcases open_slice Try.underlying26 h with ⟨hcs, hx⟩ | ⟨a, len, cap, m, n, D, PP, hcs, hb, hl, hm, hmm, hx, hel⟩
  · simp at hcs
    subst hcs
    exact ⟨[], ⟨⟨none, 0, rfl, by simp, by simp, by simp⟩, fun a n c e => by injection e with _ e2 e3; omega⟩, by simp⟩
  · simp at hcs
    subst hcs
    simp only [if_true] at hmm
    subst hmm
    have each := fun i hi => (hel i hi).elim fun cs' h12 => open_te (i := i) h12.1 h12.2
    have iSt : Inhabited Te := ⟨Te.zero⟩
    obtain ⟨q, hq⟩ := choose_lt each
    have hbig : len ≤ 4398046510000 := by
      have := hsz _ _ (by rw [hx])
      rw [bytes_te] at this
      simp [reachBytes] at this
      omega
    refine ⟨(List.range len).map q, ⟨⟨some a, m, by simp, by simp; omega, ?_, ?_⟩, fun a' n' c' e => by injection e with _ e2 e3; omega⟩, by simpa using hbig⟩
    · intro s hs
      obtain ⟨i, hi, rfl⟩ := List.mem_map.mp hs
      exact (hq i (by have := List.mem_range.mp hi; omega)).1
    · intro hne
      have hlen : 0 < len := by
        rcases Nat.eq_zero_or_pos len with rfl | h
        · simp at hne
        · exact h
      obtain ⟨b, off, spot⟩ := a
      have hspot : spot = none := by
        have := World.cell?_spot (hq 0 (by omega)).2.1
        simpa [Addr.add] using this
      subst hspot
      refine ⟨b, off, rfl, fun j hj => ?_⟩
      have hj' : j < len := by simpa using hj
      obtain ⟨_, c0, c1, c2, c3⟩ := hq j (by omega)
      rw [WideShapes.add_plain, WideShapes.add_plain] at c0 c1 c2 c3
      have e : ((List.range len).map q).getD j Te.zero = q j := by simp [hj']
      rw [e]
      exact ⟨c0, c1, c2, c3⟩

theorem open_seg {H : Type} {enc : TypeId × Value → H} {W : World} {fuel : Nat} {v : Value} {x : DataW H × List MemPlace} (h : DataW.trod enc Try.prog W 0 (fun _ => true) true fuel 22 [v] = some x) (hsz : ∀ el sp, x.1 = .slice el sp → (el.length + sp.length) * Try.prog.bytesOf 3 ≤ reachBytes) :
    ∃ l : List Int, IntsAt W v l ∧ l.length ≤ 17592186044400 := by
  rcases open_ints Try.underlying22 Try.underlying3 (by kernel_rfl) h with ⟨hcs, _⟩ | ⟨x, l, c, zs, hcs, _, hl, hm, hz, hx, hcell, hwz⟩
  · simp at hcs
    subst hcs
    exact ⟨[], ⟨none, 0, rfl, by simp, by simp, by simp, by simp⟩, by simp⟩
  · simp at hcs
    subst hcs
    simp only [if_true] at hz
    have hbig := hsz _ _ (by rw [hx])
    rw [bytes_3] at hbig
    have hlen : l ≤ 17592186044400 := by simp [lits, reachBytes] at hbig; omega
    have htl : (zs.take l).length = l := by simp; omega
    refine ⟨zs.take l, ⟨some x, c, by rw [htl], by rw [htl]; exact hl, by rw [htl]; omega, fun z hzm => ?_, fun hne => ?_⟩, by rw [htl]; exact hlen⟩
    · exact wfI (hwz z (List.mem_of_mem_take hzm))
    · have hl0 : 0 < l := by
        rcases Nat.eq_zero_or_pos l with rfl | h
        · simp at hne
        · exact h
      obtain ⟨b, off, spot⟩ := x
      have hspot : spot = none := by
        have := World.cell?_spot (hcell 0 (by omega))
        simpa [Addr.add] using this
      subst hspot
      refine ⟨b, off, rfl, fun j hj => ?_⟩
      rw [htl] at hj
      have hc := hcell j (by omega)
      rw [WideShapes.add_plain] at hc
      have e : (zs.take l).getD j 0 = zs.getD j 0 := by simp [List.getD_eq_getElem?_getD, hj]
      rw [hc, e]
theorem array7 {α : Type} {cs : Array α} (h : cs.size = 7) : ∃ c0 c1 c2 c3 c4 c5 c6, cs = #[c0, c1, c2, c3, c4, c5, c6] := by
  obtain ⟨l⟩ := cs
  match l, h with
  | [c0, c1, c2, c3, c4, c5, c6], _ => exact ⟨c0, c1, c2, c3, c4, c5, c6, rfl⟩
set_option maxRecDepth 100000 in
theorem open_man {H : Type} {enc : TypeId × Value → H} {W : World} {base : Nat} {v : Value} {d : DataW H} {p : List MemPlace} (hv : Value.okWide Try.prog W .any base 25 v) (h : DataW.Trod enc Try.prog W 0 (fun _ => true) true 25 v d p) (hw : ∀ n ∈ d.weights Try.prog 25, n ≤ reachBytes) :
    ∃ (m : Mf) (vs vp : Value), v = m.agg vs vp ∧ IntsAt W vs m.segs ∧ PrsAt W vp m.prods ∧ m.segs.length ≤ 17592186044400 ∧ m.prods.length ≤ 8796093021000 := by
  obtain ⟨cs, rfl, hsz⟩ := okWide_struct Try.underlying25 hv
  obtain ⟨v0, v1, v2, v3, v4, v5, v6, rfl⟩ := array7 (hsz.trans cells_MF)
  obtain ⟨fuel, hf⟩ := h
  obtain ⟨xs, m, _, hx, hl, hlen, hfs⟩ := DataW.trod_struct Try.underlying25 hf
  have hlen : xs.length = 7 := hlen
  match xs, hlen with
  | [y0, y1, y2, y3, y4, y5, y6], _ =>
    have k0 : DataW.trod enc Try.prog W 0 (fun _ => true) true m 3 [v0] = some y0 := by simpa [Value.cells, cells_2, cells_3, cells_IS, cells_PS] using hfs 0 _ rfl
    have k1 : DataW.trod enc Try.prog W 0 (fun _ => true) true m 3 [v1] = some y1 := by simpa [Value.cells, cells_2, cells_3, cells_IS, cells_PS] using hfs 1 _ rfl
    have k2 : DataW.trod enc Try.prog W 0 (fun _ => true) true m 2 [v2] = some y2 := by simpa [Value.cells, cells_2, cells_3, cells_IS, cells_PS] using hfs 2 _ rfl
    have k3 : DataW.trod enc Try.prog W 0 (fun _ => true) true m 2 [v3] = some y3 := by simpa [Value.cells, cells_2, cells_3, cells_IS, cells_PS] using hfs 3 _ rfl
    have k4 : DataW.trod enc Try.prog W 0 (fun _ => true) true m 2 [v4] = some y4 := by simpa [Value.cells, cells_2, cells_3, cells_IS, cells_PS] using hfs 4 _ rfl
    have k5 : DataW.trod enc Try.prog W 0 (fun _ => true) true m 22 [v5] = some y5 := by simpa [Value.cells, cells_2, cells_3, cells_IS, cells_PS] using hfs 5 _ rfl
    have k6 : DataW.trod enc Try.prog W 0 (fun _ => true) true m 23 [v6] = some y6 := by simpa [Value.cells, cells_2, cells_3, cells_IS, cells_PS] using hfs 6 _ rfl
    obtain ⟨n0, e0, _, _⟩ := DataW.trod_int Try.underlying3 k0
    obtain ⟨n1, e1, _, _⟩ := DataW.trod_int Try.underlying3 k1
    obtain ⟨n2, e2, _, _⟩ := DataW.trod_int Try.underlying2 k2
    obtain ⟨n3, e3, _, _⟩ := DataW.trod_int Try.underlying2 k3
    obtain ⟨n4, e4, _, _⟩ := DataW.trod_int Try.underlying2 k4
    simp only [List.cons.injEq, and_true] at e0 e1 e2 e3 e4
    subst e0 e1 e2 e3 e4
    have hd : d = .agg [y0.1, y1.1, y2.1, y3.1, y4.1, y5.1, y6.1] := by
      simp only [Prod.mk.injEq] at hx
      simpa using hx.1
    obtain ⟨l, hl1, hl2⟩ := open_seg k5 (fun el sp e => hw _ (by
      rw [hd]
      exact weights_agg (j := 5) Try.underlying25 rfl rfl _ (by rw [e]; exact weights_slice Try.underlying22)))
    obtain ⟨st, hs1, hs2⟩ := open_prs k6 (fun el sp e => hw _ (by
      rw [hd]
      exact weights_agg (j := 6) Try.underlying25 rfl rfl _ (by rw [e]; exact weights_slice Try.underlying23)))
    exact ⟨⟨n0, n1, n2, n3, n4, l, st⟩, v5, v6, rfl, hl1, hs1, hl2, hs2⟩
set_option maxRecDepth 100000 in
theorem open_cat {H : Type} {enc : TypeId × Value → H} {W : World} {base : Nat} {v : Value} {d : DataW H} {p : List MemPlace} (hv : Value.okWide Try.prog W .any base 28 v) (h : DataW.Trod enc Try.prog W 0 (fun _ => true) true 28 v d p) (hw : ∀ n ∈ d.weights Try.prog 28, n ≤ reachBytes) :
    ∃ (c : Ct) (u : Value), v = c.agg u ∧ TesIn W u c.tops ∧ c.tops.length ≤ 4398046510000 := by
  obtain ⟨c0, c1, y0, y1, m, rfl, hd, _, hy0, hy1⟩ := open_agg2 Try.underlying28 (by kernel_rfl) cells_CT hv h
  obtain ⟨a, e0, _, _⟩ := DataW.trod_int Try.underlying3 hy0
  simp at e0
  subst e0
  obtain ⟨st, hs1, hs2⟩ := open_tes hy1 (fun el sp e => hw _ (by
    rw [hd]
    exact weights_agg (j := 1) Try.underlying28 rfl rfl _ (by rw [e]; exact weights_slice Try.underlying26)))
  exact ⟨⟨a, st⟩, c1, rfl, hs1, hs2⟩
end Go.Proofs.Ytpeejgnkdoeijaa
