import Derived.Test.YtklfmgkfcacfkaaEa
import Derived.Test.YtklfmgkfcacfkaaRows
import Derived.ProofKit
import Derived.OpenShut
import Derived.SizedLaws
import Derived.Deep.Slices
/-! A slice of tokens that came in. -/
namespace Go.Proofs.Ytklfmgkfcacfkaa
open Go.RowKit Go.Deep Go.ChangeShapes Go.WideShapes Go.ChangeAt Plain
set_option linter.unusedVariables false

theorem cells_tok : Try.prog.cellsOf 28 = 3 := by kernel_rfl
theorem cells_b : Try.prog.cellsOf 22 = 1 := by kernel_rfl
theorem cells_i : Try.prog.cellsOf 3 = 1 := by kernel_rfl
theorem cells_u8 : Try.prog.cellsOf 5 = 1 := by kernel_rfl
theorem bytes_tok : Try.prog.bytesOf 28 = 40 := by kernel_rfl
theorem bytes_u8 : Try.prog.bytesOf 5 = 1 := by kernel_rfl

theorem weights_agg {H : Type} {P : Program} {t t' : TypeId} {fs : Array Field} {parts : List (DataW H)} {d : DataW H} {j : Nat} (hu : P.underlying t = some (.struct fs)) (ht : (fs.toList.map (·.type))[j]? = some t') (hd : parts[j]? = some d) : ∀ n ∈ d.weights P t', n ∈ (DataW.agg parts).weights P t := fun n hn => by
  simp only [DataW.weights, hu]
  exact DataW.weights_mem_each ht hd n hn
theorem weights_all {H : Type} {P : Program} {e : TypeId} : ∀ {ds : List (DataW H)} {d : DataW H}, d ∈ ds → ∀ n ∈ d.weights P e, n ∈ DataW.weightsAll P e ds
  | [], d, h, _, _ => by simp at h
  | x :: ds, d, h, n, hn => by
    simp only [DataW.weightsAll, List.mem_append]
    rcases List.mem_cons.mp h with rfl | h
    · exact .inl hn
    · exact .inr (weights_all h n hn)
theorem weights_slice {H : Type} {P : Program} {t e : TypeId} {el sp : List (DataW H)} (hu : P.underlying t = some (.slice e)) : (el.length + sp.length) * P.bytesOf e ∈ (DataW.slice el sp).weights P t := by simp [DataW.weights, hu]
theorem weights_elem {H : Type} {P : Program} {t e : TypeId} {el sp : List (DataW H)} (hu : P.underlying t = some (.slice e)) {d : DataW H} (hd : d ∈ el) : ∀ n ∈ d.weights P e, n ∈ (DataW.slice el sp).weights P t := fun n hn => by
  simp only [DataW.weights, hu, List.mem_cons, List.mem_append]
  exact .inr (.inl (weights_all hd n hn))

set_option maxRecDepth 100000 in
theorem open_tok {H : Type} {enc : TypeId × Value → H} {W : World} {n : Nat} {a : Addr} {i : Nat} {x : DataW H × List MemPlace} {cs' : List Value} (h1 : W.cells? 0 (a.add (i * Try.prog.cellsOf 28)) (Try.prog.cellsOf 28) = some cs')
    (h2 : DataW.trod enc Try.prog W 0 (fun _ => true) true n 28 cs' = some x) (hsz : ∀ m ∈ x.1.weights Try.prog 28, m ≤ reachBytes) :
    ∃ t : Tg, t.ok W ∧ t.nums ∧ W.cell? ((a.add (i * 3)).add 0) = some t.v ∧ W.cell? ((a.add (i * 3)).add 1) = some (.int .i64 t.d) ∧ W.cell? ((a.add (i * 3)).add 2) = some (.int .i64 t.n) := by
  rw [cells_tok] at h1
  obtain ⟨_, hlen0, hcell⟩ := World.cells?_some h1
  obtain ⟨xs, m, _, hx, hl, hlen, hf⟩ := DataW.trod_struct Try.underlying28 h2
  rw [cells_tok] at hl
  have hlen : xs.length = 3 := hlen
  match cs', hl with
  | [v0, v1, v2], _ =>
    match xs, hlen with
    | [y0, y1, y2], _ =>
      have k0 : DataW.trod enc Try.prog W 0 (fun _ => true) true m 22 [v0] = some y0 := by simpa [cells_b] using hf 0 _ rfl
      have k1 : DataW.trod enc Try.prog W 0 (fun _ => true) true m 3 [v1] = some y1 := by simpa [cells_i] using hf 1 _ rfl
      have k2 : DataW.trod enc Try.prog W 0 (fun _ => true) true m 3 [v2] = some y2 := by simpa [cells_i] using hf 2 _ rfl
      obtain ⟨n1, e1, _, w1⟩ := DataW.trod_int Try.underlying3 k1
      obtain ⟨n2, e2, _, w2⟩ := DataW.trod_int Try.underlying3 k2
      simp only [List.cons.injEq, and_true] at e1 e2
      subst e1 e2
      have b1 := bounds_i64 w1
      have b2 := bounds_i64 w2
      have c0 : W.cell? ((a.add (i * 3)).add 0) = some v0 := by simpa using hcell 0 (by omega)
      have c1 : W.cell? ((a.add (i * 3)).add 1) = some (.int .i64 n1) := by simpa using hcell 1 (by omega)
      have c2 : W.cell? ((a.add (i * 3)).add 2) = some (.int .i64 n2) := by simpa using hcell 2 (by omega)
      obtain ⟨l, hB, hll⟩ : ∃ l : List Nat, BytesAt W v0 l ∧ l.length ≤ 140737488351232 := by
        rcases open_ints Try.underlying22 Try.underlying5 cells_u8 k0 with ⟨hcs, _⟩ | ⟨x0, l, c, zs, hcs, _, hl0, hm0, hz, hx0, hcell0, hwz⟩
        · simp at hcs
          subst hcs
          exact ⟨[], BytesAt.nil W, by simp⟩
        · simp at hcs
          subst hcs
          simp only [if_true] at hz
          obtain ⟨l', g1, g2⟩ := bytes_of_row (w := W) (a := some x0) (len := l) (cap := c) (zs := zs) (.inr ⟨x0, rfl, hl0, hm0, hz, hcell0, hwz⟩)
          refine ⟨l', g2, ?_⟩
          have hw : ((lits (H := H) .u8 (zs.take l)).length + (lits (H := H) .u8 (zs.drop l)).length) * Try.prog.bytesOf 5 ≤ reachBytes := by
            refine hsz _ ?_
            rw [hx]
            refine weights_agg (t' := 22) (d := y0.1) (j := 0) Try.underlying28 rfl rfl _ ?_
            rw [hx0]
            exact weights_slice Try.underlying22
          rw [bytes_u8] at hw
          simp only [lits, List.length_map, List.length_take, List.length_drop, reachBytes] at hw
          omega
      exact ⟨⟨v0, l, n1, n2⟩, ⟨hB, by simp only; omega, by simp only; omega, by simp only; omega, by simp only; omega, by simp only; omega⟩, ⟨hll, by simp only; omega, by simp only; omega, by simp only; omega, by simp only; omega⟩, c0, c1, c2⟩

theorem open_toks {H : Type} {enc : TypeId × Value → H} {W : World} {fuel : Nat} {v : Value} {x : DataW H × List MemPlace} (h : DataW.trod enc Try.prog W 0 (fun _ => true) true fuel 23 [v] = some x)
    (hsz : ∀ m ∈ x.1.weights Try.prog 23, m ≤ reachBytes) : ∃ tg : List Tg, TRd W v tg ∧ (∀ t ∈ tg, t.nums) ∧ tg.length ≤ 3518437208790 := by
  rcases open_slice Try.underlying23 h with ⟨hcs, hx⟩ | ⟨a, len, cap, m, n, D, Pl, hcs, hb, hl, hm, hmm, hx, hel⟩
  · simp at hcs
    subst hcs
    exact ⟨[], ⟨none, 0, rfl, by simp, by simp, by simp, by simp⟩, by simp, by simp⟩
  · simp at hcs
    subst hcs
    simp only [if_true] at hmm
    subst hmm
    have each : ∀ i, i < len → ∃ t : Tg, t.ok W ∧ t.nums ∧ W.cell? ((a.add (i * 3)).add 0) = some t.v ∧ W.cell? ((a.add (i * 3)).add 1) = some (.int .i64 t.d) ∧ W.cell? ((a.add (i * 3)).add 2) = some (.int .i64 t.n) := by
      intro i hi
      obtain ⟨cs', h1, h2⟩ := hel i (by omega)
      refine open_tok h1 h2 (fun q hq => hsz q ?_)
      rw [hx]
      exact weights_elem Try.underlying23 (List.mem_map.mpr ⟨i, List.mem_range.mpr hi, rfl⟩) q hq
    have iT : Inhabited Tg := ⟨zT⟩
    obtain ⟨q, hq⟩ := choose_lt each
    have hbig : len ≤ 3518437208790 := by
      have := hsz _ (by rw [hx]; exact weights_slice Try.underlying23)
      rw [bytes_tok] at this
      simp [reachBytes] at this
      omega
    have hlenq : ((List.range len).map q).length = len := by simp
    refine ⟨(List.range len).map q, ⟨some a, m, by rw [hlenq], by rw [hlenq]; exact hl, hm, ?_, ?_⟩, ?_, by rw [hlenq]; exact hbig⟩
    · intro t ht
      obtain ⟨i, hi, rfl⟩ := List.mem_map.mp ht
      exact (hq i (List.mem_range.mp hi)).1
    · intro hne
      have hlen : 0 < len := by
        rcases Nat.eq_zero_or_pos len with rfl | h
        · simp at hne
        · exact h
      obtain ⟨b, off, spot⟩ := a
      have hspot : spot = none := by
        have := World.cell?_spot (hq 0 hlen).2.2.1
        simpa [Addr.add] using this
      subst hspot
      refine ⟨b, off, rfl, fun k hk => ?_⟩
      have hk' : k < len := by simpa using hk
      obtain ⟨_, _, c0, c1, c2⟩ := hq k hk'
      rw [WideShapes.add_plain, WideShapes.add_plain] at c0 c1 c2
      have e : ((List.range len).map q)[k] = q k := by simp
      rw [e]
      exact ⟨c0, c1, c2⟩
    · intro t ht
      obtain ⟨i, hi, rfl⟩ := List.mem_map.mp ht
      exact (hq i (List.mem_range.mp hi)).2.1
end Go.Proofs.Ytklfmgkfcacfkaa
