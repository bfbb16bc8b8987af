import Derived.Test.YtjhbaplnkigifaaQk22
import Derived.Test.YtjhbaplnkigifaaQk07
import Derived.Test.YtjhbaplnkigifaaQk25
import Derived.Test.YtjhbaplnkigifaaQk26
/-! keydir: moves that came in. -/
namespace Go.Proofs.Ytjhbaplnkigifaa
open Go.RowKit Go.Deep Go.ChangeShapes Go.WideShapes Go.ChangeAt Plain
set_option linter.unusedVariables false
set_option linter.unusedSimpArgs false

structure Mv.Ok (m : Mv) : Prop where
  dir : I64 m.dir
  kind : I64 m.kind
  key : m.key.size ≤ maxLen
  hi : m.hi.size ≤ maxLen
  e : (Ke.r ⟨⟨#[]⟩, m.e⟩).Ok
  n : I64 m.n
def Mv.zero : Mv := ⟨0, 0, ⟨#[]⟩, ⟨#[]⟩, ⟨0, 0, 0, 0, 0, false⟩, 0⟩
/-- A slice of moves. -/
def MvsAt (w : World) (v : Value) (st : List Mv) : Prop :=
  ∃ a cap, v = .slice a st.length cap ∧ st.length ≤ 1353245080300 ∧ (∀ m ∈ st, m.Ok) ∧ (st ≠ [] → ∃ b off, a = some ⟨b, off, none⟩ ∧ ∀ j, j < st.length → ∀ i u, (st.getD j Mv.zero).cells[i]? = some u → w.cell? ⟨b, off + j * 11 + i, none⟩ = some u)
theorem MvsAt.later {w w' : World} {v : Value} {st : List Mv} (h : MvsAt w v st) (hb : Below w.heap.size w w') : MvsAt w' v st := by
  obtain ⟨a, cap, rfl, h1, h2, h3⟩ := h
  refine ⟨a, cap, rfl, h1, h2, fun hne => ?_⟩
  obtain ⟨b, off, e, h4⟩ := h3 hne
  exact ⟨b, off, e, fun j hj i u hi => (hb.cell (p := ⟨b, off + j * 11 + i, none⟩) (cell_lt (h4 j hj i u hi))).trans (h4 j hj i u hi)⟩
theorem cells_mv : Try.prog.cellsOf 40 = 11 := by kernel_rfl
theorem bytes_mv : Try.prog.bytesOf 40 = 104 := by kernel_rfl
set_option maxRecDepth 100000 in
theorem open_mv {H : Type} {enc : TypeId × Value → H} {W : World} {n : Nat} {a : Addr} {i : Nat} {x : DataW H × List MemPlace} {cs' : List Value} (h1 : W.cells? 0 (a.add (i * Try.prog.cellsOf 40)) (Try.prog.cellsOf 40) = some cs')
    (h2 : DataW.trod enc Try.prog W 0 (fun _ => true) true n 40 cs' = some x) :
    ∃ s : Mv, s.Ok ∧ ∀ j u, s.cells[j]? = some u → W.cell? ((a.add (i * 11)).add j) = some u := by
  rw [cells_mv] at h1
  obtain ⟨_, hlen0, hcell⟩ := World.cells?_some h1
  obtain ⟨xs, m, _, hx, hl, hlen, hf⟩ := DataW.trod_struct Try.underlying40 h2
  rw [cells_mv] at hl
  have hlen : xs.length = 6 := hlen
  match cs', hl with
  | [v0, v1, v2, v3, v4, v5, v6, v7, v8, v9, v10], _ =>
    match xs, hlen with
    | [y0, y1, y2, y3, y4, y5], _ =>
      have k0 : DataW.trod enc Try.prog W 0 (fun _ => true) true m 3 [v0] = some y0 := by simpa [cells_3] using hf 0 _ rfl
      have k1 : DataW.trod enc Try.prog W 0 (fun _ => true) true m 3 [v1] = some y1 := by simpa [cells_3] using hf 1 _ rfl
      have k2 : DataW.trod enc Try.prog W 0 (fun _ => true) true m 9 [v2] = some y2 := by simpa [cells_3, cells_9] using hf 2 _ rfl
      have k3 : DataW.trod enc Try.prog W 0 (fun _ => true) true m 9 [v3] = some y3 := by simpa [cells_3, cells_9] using hf 3 _ rfl
      have k4 : DataW.trod enc Try.prog W 0 (fun _ => true) true m 38 [v4, v5, v6, v7, v8, v9] = some y4 := by simpa [cells_3, cells_9, cells_en] using hf 4 _ rfl
      have k5 : DataW.trod enc Try.prog W 0 (fun _ => true) true m 3 [v10] = some y5 := by simpa [cells_3, cells_9, cells_en] using hf 5 _ rfl
      obtain ⟨n0, e0, _, w0⟩ := DataW.trod_int Try.underlying3 k0
      obtain ⟨n1, e1, _, w1⟩ := DataW.trod_int Try.underlying3 k1
      obtain ⟨s2, e2, _, w2⟩ := DataW.trod_string Try.underlying9 k2
      obtain ⟨s3, e3, _, w3⟩ := DataW.trod_string Try.underlying9 k3
      obtain ⟨p0, p1, p2, p3, p4, b5, e4, q1, q2, q3, q4, q5⟩ := open_en k4
      obtain ⟨n5, e5, _, w5⟩ := DataW.trod_int Try.underlying3 k5
      simp only [List.cons.injEq, and_true] at e0 e1 e2 e3 e4 e5
      obtain ⟨rfl, rfl, rfl, rfl, rfl, rfl⟩ := e4
      subst e0 e1 e2 e3 e5
      refine ⟨⟨n0, n1, s2, s3, ⟨p0, p1, p2, p3, p4, b5⟩, n5⟩, ⟨wf_i64 w0, wf_i64 w1, w2, w3, ⟨Nat.zero_le _, q1, q2, q3, q4, q5, trivial⟩, wf_i64 w5⟩, fun j u hj => ?_⟩
      have hj11 : j < 11 := by
        have := (List.getElem?_eq_some_iff.mp hj).1
        simpa [Mv.cells] using this
      have := hcell j (by simpa using hj11)
      rw [this]
      simpa [Mv.cells] using hj
theorem open_mvs {H : Type} {enc : TypeId × Value → H} {W : World} {fuel : Nat} {v : Value} {x : DataW H × List MemPlace} (h : DataW.trod enc Try.prog W 0 (fun _ => true) true fuel 22 [v] = some x)
    (hsz : ∀ el sp, x.1 = .slice el sp → (el.length + sp.length) * Try.prog.bytesOf 40 ≤ reachBytes) : ∃ st : List Mv, MvsAt W v st := by
  rcases open_slice Try.underlying22 h with ⟨hcs, hx⟩ | ⟨a, len, cap, m, n, D, PP, hcs, hb, hl, hm, hmm, hx, hel⟩
  · simp at hcs
    subst hcs
    exact ⟨[], ⟨none, 0, rfl, by simp, by simp, by simp⟩⟩
  · simp at hcs
    subst hcs
    simp only [if_true] at hmm
    subst hmm
    have each := fun i hi => (hel i hi).elim fun cs' h12 => open_mv (i := i) h12.1 h12.2
    have iSt : Inhabited Mv := ⟨Mv.zero⟩
    obtain ⟨q, hq⟩ := choose_lt each
    have hbig : len ≤ 1353245080300 := by
      have := hsz _ _ (by rw [hx])
      rw [bytes_mv] at this
      simp [reachBytes] at this
      omega
    refine ⟨(List.range len).map q, ⟨some a, m, by simp, by simpa using hbig, ?_, ?_⟩⟩
    · intro s hs
      obtain ⟨i, hi, rfl⟩ := List.mem_map.mp hs
      exact (hq i (by have := List.mem_range.mp hi; omega)).1
    · intro hne
      have hlen : 0 < len := by
        rcases Nat.eq_zero_or_pos len with rfl | h
        · simp at hne
        · exact h
      obtain ⟨b, off, spot⟩ := a
      have hspot : spot = none := by
        have := World.cell?_spot ((hq 0 (by omega)).2 0 _ rfl)
        simpa [Addr.add] using this
      subst hspot
      refine ⟨b, off, rfl, fun j hj i u hi => ?_⟩
      have hj' : j < len := by simpa using hj
      have hg : ((List.range len).map q).getD j Mv.zero = q j := by simp [List.getD_eq_getElem?_getD, hj']
      rw [hg] at hi
      have := (hq j (by omega)).2 i u hi
      rw [WideShapes.add_plain, WideShapes.add_plain] at this
      exact this
end Go.Proofs.Ytjhbaplnkigifaa

/-! keydir: told, of whatever move (but for Erode, which is asked). -/
namespace Go.Proofs.Ytjhbaplnkigifaa
open Go.RowKit Plain
set_option linter.unusedVariables false
set_option linter.unusedSimpArgs false

/-- The law's world, its lists at most B long, at most N lists handed out. -/
def WS (D O : Nat → Prop) (w : World) (gw B N : Nat) : Prop := ∃ vd vx vl rd rx rl ps hs, O = WOwn gw rd rx rl ps hs ∧ WdAt D w gw vd vx vl rd rx rl ps hs ∧ (∀ i, i < ps.length → (ps.getD i Dp.zero).l.length ≤ B) ∧ hs.length ≤ N
theorem WS.later {D O : Nat → Prop} {w w' : World} {gw B N : Nat} (h : WS D O w gw B N) (hb : Below w.heap.size w w') : WS D O w' gw B N := by
  obtain ⟨vd, vx, vl, rd, rx, rl, ps, hs, rfl, h1, h2, h3⟩ := h
  exact ⟨vd, vx, vl, rd, rx, rl, ps, hs, rfl, h1.later hb, h2, h3⟩
theorem WS.mono {D O : Nat → Prop} {w : World} {gw B N B' N' : Nat} (h : WS D O w gw B N) (hB : B ≤ B') (hN : N ≤ N') : WS D O w gw B' N' := by
  obtain ⟨vd, vx, vl, rd, rx, rl, ps, hs, rfl, h1, h2, h3⟩ := h
  exact ⟨vd, vx, vl, rd, rx, rl, ps, hs, rfl, h1, fun i hi => Nat.le_trans (h2 i hi) hB, Nat.le_trans h3 hN⟩
/-- What told answers of an Erode. -/
def EroOk : Prop := ∀ (D : Nat → Prop) (w : World) (gw : Nat) (vd vx vl : Value) (rd rx rl : Option Nat) (ps : List Dp) (hs : List Ho) (m : Mv), WdAt D w gw vd vx vl rd rx rl ps hs → m.kind = 11 → m.Ok → (∀ i, i < ps.length → (ps.getD i Dp.zero).l.length < 2199023254000) →
  Calls Try.prog 6 #[.pointer (some ⟨gw, 0, none⟩), m.v] w fun e w' => e = .returned (.bool true) ∧ ∃ D' ps', Grew ps ps' ∧ Fr3 D D' (WOwn gw rd rx rl ps hs) (WOwn gw rd rx rl ps' hs) w w' ∧ WdAt D' w' gw vd vx vl rd rx rl ps' hs
theorem toldAny (hEro : EroOk) {D O : Nat → Prop} {w : World} {gw B N : Nat} (m : Mv) (h : WS D O w gw B N) (hm : m.Ok) (hB : B < 2199023253000) (hN : N < 2199023253000) :
    Calls Try.prog 6 #[.pointer (some ⟨gw, 0, none⟩), m.v] w fun e w' => e = .returned (.bool true) ∧ ∃ D' O', Fr3 D D' O O' w w' ∧ WS D' O' w' gw (B + 1) (N + 1) := by
  obtain ⟨vd, vx, vl, rd, rx, rl, ps, hs, rfl, h1, h2, h3⟩ := h
  have hok : ∀ i, i < ps.length → (ps.getD i Dp.zero).l.length < 2199023255000 := fun i hi => by have := h2 i hi; omega
  have hfin : ∀ (e : Ending) (w' : World), (e = .returned (.bool true) ∧ ∃ D' ps', Grew ps ps' ∧ Fr3 D D' (WOwn gw rd rx rl ps hs) (WOwn gw rd rx rl ps' hs) w w' ∧ WdAt D' w' gw vd vx vl rd rx rl ps' hs) → e = .returned (.bool true) ∧ ∃ D' O', Fr3 D D' (WOwn gw rd rx rl ps hs) O' w w' ∧ WS D' O' w' gw (B + 1) (N + 1) := fun e w' ⟨he, D', ps', hg, hfr, hw⟩ =>
    ⟨he, D', _, hfr, vd, vx, vl, rd, rx, rl, ps', hs, rfl, hw, hg B h2, by omega⟩
  by_cases e0 : m.kind = 0
  · exact (toldPut m h1 e0 hm.key hm.dir hok hm.e).mono hfin
  by_cases e1 : m.kind = 1
  · exact (toldNote m h1 e1 hm.key hm.dir hok hm.e).mono hfin
  by_cases e2 : m.kind = 2
  · exact (toldPoint m h1 e2 hm.key hm.dir hok hm.e).mono hfin
  by_cases e3 : m.kind = 3
  · exact (toldGet m h1 e3 hm.key hm.dir hok hm.e).mono hfin
  by_cases e4 : m.kind = 4
  · exact (toldRemove m h1 e4 hm.key hm.dir hok hm.e).mono hfin
  by_cases e5 : m.kind = 5
  · exact (toldRank m h1 e5 hm.key hm.dir hok hm.e).mono hfin
  by_cases e6 : m.kind = 6
  · exact (toldNth m h1 e6 hm.key hm.dir hm.n hok hm.e).mono hfin
  by_cases e7 : m.kind = 7
  · refine (toldRange m h1 e7 hm.key hm.dir hm.hi (by omega) (fun i hi => by have := h2 i hi; omega) hok hm.e).mono ?_
    rintro e w' ⟨he, D', vl', rl', x, hfr, hw⟩
    exact ⟨he, D', _, hfr, vd, vx, vl', rd, rx, rl', ps, hs ++ [x], rfl, hw, fun i hi => Nat.le_succ_of_le (h2 i hi), by simp; omega⟩
  by_cases e8 : m.kind = 8
  · exact (toldAll m h1 e8 hm.key hm.dir hm.n hm.hi hok hm.e).mono hfin
  by_cases e9 : m.kind = 9
  · exact (toldPrefix m h1 e9 hm.key hm.dir hm.n hm.hi hok hm.e).mono hfin
  by_cases e10 : m.kind = 10
  · refine (toldFreeze m h1 e10 hm.key hm.dir hok hm.e).mono ?_
    rintro e w' ⟨he, D', vd', vx', rd', rx', ps', hg, hfr, hw⟩
    exact ⟨he, D', _, hfr, vd', vx', vl, rd', rx', rl, ps', hs, rfl, hw, hg B h2, by omega⟩
  by_cases e11 : m.kind = 11
  · exact (hEro D w gw vd vx vl rd rx rl ps hs m h1 e11 hm (fun i hi => by have := h2 i hi; omega)).mono hfin
  · refine (toldNone m h1 (fun j h0 h12 => ?_) hm.key hm.dir hok hm.e).mono hfin
    intro e
    have : j = 0 ∨ j = 1 ∨ j = 2 ∨ j = 3 ∨ j = 4 ∨ j = 5 ∨ j = 6 ∨ j = 7 ∨ j = 8 ∨ j = 9 ∨ j = 10 ∨ j = 11 := by omega
    rcases this with rfl | rfl | rfl | rfl | rfl | rfl | rfl | rfl | rfl | rfl | rfl | rfl
    · exact e0 e
    · exact e1 e
    · exact e2 e
    · exact e3 e
    · exact e4 e
    · exact e5 e
    · exact e6 e
    · exact e7 e
    · exact e8 e
    · exact e9 e
    · exact e10 e
    · exact e11 e
end Go.Proofs.Ytjhbaplnkigifaa
