import Derived.Test.YtelhjdplghpnbabSdI
import Derived.Test.YtelhjdplghpnbabRows
import Derived.ProofKit
import Derived.OpenShut
import Derived.SizedLaws
import Derived.ChangeSlices
import Derived.Deep.Slices
import Derived.Deep.Strs
import Derived.Lib.SmallJoins
/-! Turns that came in. -/
namespace Go.Proofs.Ytelhjdplghpnbab
open Go.RowKit Go.Deep Go.ChangeShapes Go.WideShapes Go.ChangeAt Go.Joins Plain
set_option linter.unusedVariables false
set_option linter.unusedSimpArgs false

theorem wfJ {z : Int} (h : (Lit.int .i64 z).wf = true) : I64 z := by
  have := bounds_i64 h
  unfold I64
  omega
theorem cells_3j : Try.prog.cellsOf 3 = 1 := by kernel_rfl
theorem cells_4j : Try.prog.cellsOf 4 = 1 := by kernel_rfl
theorem bytes_3j : Try.prog.bytesOf 3 = 8 := by kernel_rfl
theorem cells_ISj : Try.prog.cellsOf 35 = 1 := by kernel_rfl
theorem cells_QSj : Try.prog.cellsOf 22 = 1 := by kernel_rfl
theorem cells_QUj : Try.prog.cellsOf 37 = 4 := by kernel_rfl
theorem bytes_QUj : Try.prog.bytesOf 37 = 48 := by kernel_rfl
theorem cells_TUj : Try.prog.cellsOf 24 = 3 := by kernel_rfl
theorem weights_agg {H : Type} {P : Program} {t t' : TypeId} {fs : Array Field} {parts : List (DataW H)} {d : DataW H} {j : Nat} (hu : P.underlying t = some (.struct fs)) (ht : (fs.toList.map (·.type))[j]? = some t') (hd : parts[j]? = some d) : ∀ n ∈ d.weights P t', n ∈ (DataW.agg parts).weights P t := fun n hn => by
  simp only [DataW.weights, hu]
  exact DataW.weights_mem_each ht hd n hn
theorem weights_all {H : Type} {P : Program} {e : TypeId} : ∀ {ds : List (DataW H)} {d : DataW H}, d ∈ ds → ∀ n ∈ d.weights P e, n ∈ DataW.weightsAll P e ds
  | [], d, h, _, _ => by simp at h
  | x :: ds, d, h, n, hn => by
    simp only [DataW.weightsAll, List.mem_append]
    rcases List.mem_cons.mp h with rfl | h
    · exact .inl hn
    · exact .inr (weights_all h n hn)
theorem weights_slice {H : Type} {P : Program} {t e : TypeId} {el sp : List (DataW H)} (hu : P.underlying t = some (.slice e)) : (el.length + sp.length) * P.bytesOf e ∈ (DataW.slice el sp).weights P t := by simp [DataW.weights, hu]
theorem weights_elem {H : Type} {P : Program} {t e : TypeId} {el sp : List (DataW H)} (hu : P.underlying t = some (.slice e)) {d : DataW H} (hd : d ∈ el) : ∀ n ∈ d.weights P e, n ∈ (DataW.slice el sp).weights P t := fun n hn => by
  simp only [DataW.weights, hu, List.mem_cons, List.mem_append]
  exact .inr (.inl (weights_all hd n hn))
theorem open_intsJ {H : Type} {enc : TypeId × Value → H} {W : World} {fuel : Nat} {v : Value} {x : DataW H × List MemPlace} (h : DataW.trod enc Try.prog W 0 (fun _ => true) true fuel 35 [v] = some x) (hsz : ∀ m ∈ x.1.weights Try.prog 35, m ≤ reachBytes) : ∃ (a : Option Addr) (cap : Nat) (l : List Int), v = .slice a l.length cap ∧ l.length ≤ 17592186043904 ∧ IntsAt W v l := by
  rcases open_ints Try.underlying35 Try.underlying3 cells_3j h with ⟨hcs, _⟩ | ⟨x0, len, cap, zs, hcs, hbk, hl, hm, hz, hx, hcell, hwz⟩
  · simp at hcs
    subst hcs
    exact ⟨none, 0, [], rfl, by simp, none, 0, rfl, by simp, by simp, by simp, by simp⟩
  · simp at hcs
    subst hcs
    simp only [if_true] at hz
    have hlt : (zs.take len).length = len := by simp; omega
    have hbig : len ≤ 17592186043904 := by
      have hw : ((lits (H := H) .i64 (zs.take len)).length + (lits (H := H) .i64 (zs.drop len)).length) * Try.prog.bytesOf 3 ≤ reachBytes := by
        refine hsz _ ?_
        rw [hx]
        simp [DataW.weights, Try.underlying35]
      rw [bytes_3j] at hw
      simp only [lits, List.length_map, List.length_take, List.length_drop, reachBytes] at hw
      omega
    obtain ⟨b, off, spot⟩ := x0
    refine ⟨_, cap, zs.take len, by rw [hlt], by rw [hlt]; exact hbig, _, cap, by rw [hlt], by rw [hlt]; exact hl, by rw [hlt]; omega, fun z hz' => ?_, fun hne => ?_⟩
    · have := bounds_i64 (hwz z (List.mem_of_mem_take hz'))
      unfold I64
      omega
    · have hlen : 0 < len := by
        rcases Nat.eq_zero_or_pos len with rfl | h
        · simp at hne
        · exact h
      have hspot : spot = none := by
        have := World.cell?_spot (hcell 0 (by omega))
        simpa [Addr.add] using this
      subst hspot
      refine ⟨b, off, rfl, fun j hj => ?_⟩
      rw [hlt] at hj
      have h6 := hcell j (by omega)
      rw [WideShapes.add_plain] at h6
      rw [h6]
      simp [List.getD_eq_getElem?_getD, hj]
/-- A queue with its costs, as they came in. -/
structure Qx where
  v : Qv
  c : List Int
def Qx.zero : Qx := ⟨Qv.zero, []⟩
structure Qx.Ok (W : World) (s : Qx) : Prop where
  ok : s.v.Ok
  len : s.v.sl.2.1 = s.c.length
  few : s.c.length ≤ 17592186043904
  ints : IntsAt W (.slice s.v.sl.1 s.v.sl.2.1 s.v.sl.2.2) s.c
set_option maxRecDepth 100000 in
theorem open_qu {H : Type} {enc : TypeId × Value → H} {W : World} {n : Nat} {a : Addr} {i : Nat} {x : DataW H × List MemPlace} {cs' : List Value} (h1 : W.cells? 0 (a.add (i * Try.prog.cellsOf 37)) (Try.prog.cellsOf 37) = some cs')
    (h2 : DataW.trod enc Try.prog W 0 (fun _ => true) true n 37 cs' = some x) (hsz : ∀ m ∈ x.1.weights Try.prog 37, m ≤ reachBytes) :
    ∃ s : Qx, s.Ok W ∧ W.cell? ((a.add (i * 4)).add 0) = some (.int .i64 s.v.id) ∧ W.cell? ((a.add (i * 4)).add 1) = some (.int .i64 s.v.quantum) ∧ W.cell? ((a.add (i * 4)).add 2) = some (.int .i64 s.v.deficit) ∧ W.cell? ((a.add (i * 4)).add 3) = some (.slice s.v.sl.1 s.v.sl.2.1 s.v.sl.2.2) := by
  rw [cells_QUj] at h1
  obtain ⟨_, hlen0, hcell⟩ := World.cells?_some h1
  obtain ⟨xs, m, _, hx, hl, hlen, hf⟩ := DataW.trod_struct Try.underlying37 h2
  rw [cells_QUj] at hl
  have hlen : xs.length = 4 := hlen
  match cs', hl with
  | [v0, v1, v2, v3], _ =>
    match xs, hlen with
    | [y0, y1, y2, y3], _ =>
      have k0 : DataW.trod enc Try.prog W 0 (fun _ => true) true m 3 [v0] = some y0 := by simpa [cells_3j, cells_ISj] using hf 0 _ rfl
      have k1 : DataW.trod enc Try.prog W 0 (fun _ => true) true m 3 [v1] = some y1 := by simpa [cells_3j, cells_ISj] using hf 1 _ rfl
      have k2 : DataW.trod enc Try.prog W 0 (fun _ => true) true m 3 [v2] = some y2 := by simpa [cells_3j, cells_ISj] using hf 2 _ rfl
      have k3 : DataW.trod enc Try.prog W 0 (fun _ => true) true m 35 [v3] = some y3 := by simpa [cells_3j, cells_ISj] using hf 3 _ rfl
      obtain ⟨n0, e0, _, w0⟩ := DataW.trod_int Try.underlying3 k0
      obtain ⟨n1, e1, _, w1⟩ := DataW.trod_int Try.underlying3 k1
      obtain ⟨n2, e2, _, w2⟩ := DataW.trod_int Try.underlying3 k2
      simp only [List.cons.injEq, and_true] at e0 e1 e2
      subst e0 e1 e2
      obtain ⟨sa, sc, l, e3, hl3, hin⟩ := open_intsJ k3 (fun q hq => hsz q (by
        rw [hx]
        exact weights_agg (j := 3) Try.underlying37 rfl rfl q hq))
      subst e3
      exact ⟨⟨⟨n0, n1, n2, (sa, l.length, sc)⟩, l⟩, ⟨⟨wfJ w0, wfJ w1, wfJ w2, trivial⟩, rfl, hl3, hin⟩, by simpa using hcell 0 (by omega), by simpa using hcell 1 (by omega), by simpa using hcell 2 (by omega), by simpa using hcell 3 (by omega)⟩
theorem open_qs {H : Type} {enc : TypeId × Value → H} {W : World} {fuel : Nat} {v : Value} {x : DataW H × List MemPlace} (h : DataW.trod enc Try.prog W 0 (fun _ => true) true fuel 22 [v] = some x)
    (hsz : ∀ m ∈ x.1.weights Try.prog 22, m ≤ reachBytes) : ∃ l : List Qu, QsAt W v l ∧ l.length ≤ 2932031007317 ∧ ∀ j, j < l.length → (l.getD j Qu.zero).costs.length ≤ 17592186043904 := by
  rcases open_slice Try.underlying22 h with ⟨hcs, hx⟩ | ⟨a, len, cap, m, n, D, PP, hcs, hb, hl, hm, hmm, hx, hel⟩
  · simp at hcs
    subst hcs
    exact ⟨[], ⟨[], ⟨none, 0, rfl, by simp, by simp, by simp⟩, rfl, fun j hj => by simp at hj⟩, by simp, by simp⟩
  · simp at hcs
    subst hcs
    simp only [if_true] at hmm
    subst hmm
    have each : ∀ i, i < len → ∃ s : Qx, s.Ok W ∧ W.cell? ((a.add (i * 4)).add 0) = some (.int .i64 s.v.id) ∧ W.cell? ((a.add (i * 4)).add 1) = some (.int .i64 s.v.quantum) ∧ W.cell? ((a.add (i * 4)).add 2) = some (.int .i64 s.v.deficit) ∧ W.cell? ((a.add (i * 4)).add 3) = some (.slice s.v.sl.1 s.v.sl.2.1 s.v.sl.2.2) := by
      intro i hi
      obtain ⟨cs', h1, h2⟩ := hel i (by omega)
      refine open_qu h1 h2 (fun q hq => hsz q ?_)
      rw [hx]
      exact weights_elem Try.underlying22 (List.mem_map.mpr ⟨i, List.mem_range.mpr hi, rfl⟩) q hq
    have iSt : Inhabited Qx := ⟨Qx.zero⟩
    obtain ⟨q, hq⟩ := choose_lt each
    have hbig : len ≤ 2932031007317 := by
      have := hsz _ (by rw [hx]; exact weights_slice Try.underlying22)
      rw [bytes_QUj] at this
      simp [reachBytes] at this
      omega
    have ge : ∀ j, j < len → ((List.range len).map fun i => (q i).v).getD j Qv.zero = (q j).v := fun j hj => by simp [hj]
    have gu : ∀ j, j < len → ((List.range len).map fun i => (⟨(q i).v.id, (q i).v.quantum, (q i).v.deficit, (q i).c⟩ : Qu)).getD j Qu.zero = ⟨(q j).v.id, (q j).v.quantum, (q j).v.deficit, (q j).c⟩ := fun j hj => by simp [hj]
    refine ⟨(List.range len).map fun i => ⟨(q i).v.id, (q i).v.quantum, (q i).v.deficit, (q i).c⟩, ⟨(List.range len).map fun i => (q i).v, ⟨some a, m, by simp, by simp; omega, ?_, ?_⟩, by simp, fun j hj => ?_⟩, by simpa using hbig, fun j hj => ?_⟩
    · intro s hs
      obtain ⟨i, hi, rfl⟩ := List.mem_map.mp hs
      exact (hq i (List.mem_range.mp hi)).1.ok
    · intro hne
      have hlen : 0 < len := by
        rcases Nat.eq_zero_or_pos len with rfl | h
        · simp at hne
        · exact h
      obtain ⟨b, off, spot⟩ := a
      have hspot : spot = none := by
        have := World.cell?_spot (hq 0 (by omega)).2.1
        simpa [Addr.add] using this
      subst hspot
      refine ⟨b, off, rfl, fun j hj => ?_⟩
      have hj' : j < len := by simpa using hj
      obtain ⟨_, c0, c1, c2, c3⟩ := hq j (by omega)
      rw [WideShapes.add_plain, WideShapes.add_plain] at c0 c1 c2 c3
      rw [ge j hj']
      exact ⟨c0, c1, c2, c3⟩
    · have hj' : j < len := by simpa using hj
      rw [ge j hj', gu j hj']
      have ho := (hq j hj').1
      exact ⟨rfl, rfl, rfl, ho.len, ho.ints⟩
    · have hj' : j < len := by simpa using hj
      rw [gu j hj']
      exact (hq j hj').1.few
set_option maxRecDepth 100000 in
theorem open_tur {H : Type} {enc : TypeId × Value → H} {W : World} {base : Nat} {v : Value} {d : DataW H} {p : List MemPlace} (hv : Value.okWide Try.prog W .any base 24 v) (h : DataW.Trod enc Try.prog W 0 (fun _ => true) true 24 v d p) (hsz : ∀ m ∈ d.weights Try.prog 24, m ≤ reachBytes) : ∃ (t : Tr) (s : Value), v = turV s t ∧ TrAt W s t ∧ t.qs.length ≤ 2932031007317 ∧ ∀ j, j < t.qs.length → (t.q j).costs.length ≤ 17592186043904 := by
  obtain ⟨cs, rfl, hs⟩ := okWide_struct Try.underlying24 hv
  obtain ⟨v0, v1, v2, rfl⟩ : ∃ v0 v1 v2, cs = #[v0, v1, v2] := by
    obtain ⟨l⟩ := cs
    match l, hs.trans cells_TUj with
    | [c0, c1, c2], _ => exact ⟨c0, c1, c2, rfl⟩
  obtain ⟨fuel, hf⟩ := h
  obtain ⟨xs, m, _, hx, hl, hlen, hfs⟩ := DataW.trod_struct Try.underlying24 hf
  have hlen : xs.length = 3 := hlen
  match xs, hlen with
  | [y0, y1, y2], _ =>
    have k0 : DataW.trod enc Try.prog W 0 (fun _ => true) true m 22 [v0] = some y0 := by simpa [Value.cells, cells_3j, cells_QSj, cells_4j] using hfs 0 _ rfl
    have k1 : DataW.trod enc Try.prog W 0 (fun _ => true) true m 3 [v1] = some y1 := by simpa [Value.cells, cells_3j, cells_QSj, cells_4j] using hfs 1 _ rfl
    have k2 : DataW.trod enc Try.prog W 0 (fun _ => true) true m 4 [v2] = some y2 := by simpa [Value.cells, cells_3j, cells_QSj, cells_4j] using hfs 2 _ rfl
    obtain ⟨n1, e1, _, w1⟩ := DataW.trod_int Try.underlying3 k1
    obtain ⟨n2, e2, _⟩ := DataW.trod_bool Try.underlying4 k2
    simp only [List.cons.injEq, and_true] at e1 e2
    subst e1 e2
    simp only [Prod.mk.injEq] at hx
    obtain ⟨rfl, -⟩ := hx
    obtain ⟨l, h1, h2, h3⟩ := open_qs k0 (fun q hq => hsz q (weights_agg (j := 0) Try.underlying24 rfl rfl q hq))
    exact ⟨⟨l, n1, n2⟩, v0, rfl, ⟨h1, wfJ w1⟩, h2, h3⟩
end Go.Proofs.Ytelhjdplghpnbab
