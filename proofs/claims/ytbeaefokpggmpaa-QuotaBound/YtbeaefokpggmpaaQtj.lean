import Derived.Test.YtbeaefokpggmpaaQto
import Derived.Test.YtbeaefokpggmpaaQtk
import Derived.Test.YtbeaefokpggmpaaRows
import Derived.ProofKit
import Derived.OpenShut
import Derived.SizedLaws
import Derived.Deep.Slices
/-! quota: askings that came in. -/
namespace Go.Proofs.Ytbeaefokpggmpaa
open Go.RowKit Go.Deep Go.ChangeShapes Go.WideShapes
set_option linter.unusedVariables false
set_option linter.unusedSimpArgs false

structure Ak where
  later : Int
  n : Int
def Ak.zero : Ak := ⟨0, 0⟩
def Ak.cells (x : Ak) : List Value := [.int .i64 x.later, .int .i64 x.n]
abbrev Ak.agg (x : Ak) : Value := .agg #[.int .i64 x.later, .int .i64 x.n]
structure Ak.Ok (x : Ak) : Prop where
  later : I64 x.later
  n : I64 x.n

/-- The cells at a place. -/
structure Ak.CellsAt (w : World) (b o : Nat) (x : Ak) : Prop where
  c0 : w.cell? ⟨b, o, none⟩ = some (.int .i64 x.later)
  c1 : w.cell? ⟨b, o + 1, none⟩ = some (.int .i64 x.n)
theorem Ak.CellsAt.lt {w : World} {b o : Nat} {x : Ak} (h : Ak.CellsAt w b o x) : b < w.heap.size := cell_lt h.c0
theorem Ak.CellsAt.block {w w' : World} {b o : Nat} {x : Ak} (h : Ak.CellsAt w b o x) (e : w'.heap[b]? = w.heap[b]?) : Ak.CellsAt w' b o x := by
  have hc : ∀ j, w'.cell? ⟨b, j, none⟩ = w.cell? ⟨b, j, none⟩ := fun j => World.cell?_of_block (w := w) (a := ⟨b, j, none⟩) e
  exact ⟨by rw [hc]; exact h.c0, by rw [hc]; exact h.c1⟩

/-- v is a slice of records that reads as st. -/
def AksAt (w : World) (v : Value) (st : List Ak) : Prop :=
  ∃ a cap, v = .slice a st.length cap ∧ st.length ≤ 8796093022000 ∧ (∀ x ∈ st, x.Ok) ∧ (st ≠ [] → ∃ b off, a = some ⟨b, off, none⟩ ∧ ∀ j, j < st.length → Ak.CellsAt w b (off + j * 2) (st.getD j Ak.zero))

theorem AksAt.later {w w' : World} {v : Value} {st : List Ak} (h : AksAt w v st) (hb : Below w.heap.size w w') : AksAt w' v st := by
  obtain ⟨a, cap, e, h1, h2, h3⟩ := h
  refine ⟨a, cap, e, h1, h2, fun hne => ?_⟩
  obtain ⟨b, off, e2, hc⟩ := h3 hne
  exact ⟨b, off, e2, fun j hj => (hc j hj).block (hb.block b (hc j hj).lt)⟩

theorem cells_ak : Try.prog.cellsOf 33 = 2 := by kernel_rfl
theorem bytes_ak : Try.prog.bytesOf 33 = 16 := by kernel_rfl
set_option maxRecDepth 100000 in
theorem open_ak {H : Type} {enc : TypeId × Value → H} {W : World} {n : Nat} {a : Addr} {i : Nat} {x : DataW H × List MemPlace} {cs' : List Value} (h1 : W.cells? 0 (a.add (i * Try.prog.cellsOf 33)) (Try.prog.cellsOf 33) = some cs')
    (h2 : DataW.trod enc Try.prog W 0 (fun _ => true) true n 33 cs' = some x) :
    ∃ s : Ak, s.Ok ∧ W.cell? ((a.add (i * 2)).add 0) = some (.int .i64 s.later) ∧ W.cell? ((a.add (i * 2)).add 1) = some (.int .i64 s.n) := by
  rw [cells_ak] at h1
  obtain ⟨_, hlen0, hcell⟩ := World.cells?_some h1
  obtain ⟨xs, m, _, hx, hl, hlen, hf⟩ := DataW.trod_struct Try.underlying33 h2
  rw [cells_ak] at hl
  have hlen : xs.length = 2 := hlen
  match cs', hl with
  | [v0, v1], _ =>
    match xs, hlen with
    | [y0, y1], _ =>
      have k0 : DataW.trod enc Try.prog W 0 (fun _ => true) true m 2 [v0] = some y0 := by simpa [cells_2] using hf 0 _ rfl
      have k1 : DataW.trod enc Try.prog W 0 (fun _ => true) true m 2 [v1] = some y1 := by simpa [cells_2] using hf 1 _ rfl
      obtain ⟨n0, e0, _, w0⟩ := DataW.trod_int Try.underlying2 k0
      obtain ⟨n1, e1, _, w1⟩ := DataW.trod_int Try.underlying2 k1
      simp only [List.cons.injEq, and_true] at e0 e1
      subst e0 e1
      exact ⟨⟨n0, n1⟩, ⟨i64_of w0, i64_of w1⟩, by simpa using hcell 0 (by omega), by simpa using hcell 1 (by omega)⟩

theorem open_aks {H : Type} {enc : TypeId × Value → H} {W : World} {fuel : Nat} {v : Value} {x : DataW H × List MemPlace} (h : DataW.trod enc Try.prog W 0 (fun _ => true) true fuel 29 [v] = some x)
    (hsz : ∀ el sp, x.1 = .slice el sp → (el.length + sp.length) * Try.prog.bytesOf 33 ≤ reachBytes) : ∃ st : List Ak, AksAt W v st := by
  rcases open_slice Try.underlying29 h with ⟨hcs, hx⟩ | ⟨a, len, cap, m, n, D, PP, hcs, hb, hl, hm, hmm, hx, hel⟩
  · simp at hcs
    subst hcs
    exact ⟨[], ⟨none, 0, rfl, by simp, by simp, by simp⟩⟩
  · simp at hcs
    subst hcs
    simp only [if_true] at hmm
    subst hmm
    have each := fun i hi => (hel i hi).elim fun cs' h12 => open_ak (i := i) h12.1 h12.2
    have iSt : Inhabited Ak := ⟨Ak.zero⟩
    obtain ⟨q, hq⟩ := choose_lt each
    have hbig : len ≤ 8796093022000 := by
      have := hsz _ _ (by rw [hx])
      rw [bytes_ak] at this
      simp [reachBytes] at this
      omega
    refine ⟨(List.range len).map q, ⟨some a, m, by simp, by simpa using hbig, ?_, ?_⟩⟩
    · intro s hs
      obtain ⟨i, hi, rfl⟩ := List.mem_map.mp hs
      exact (hq i (by have := List.mem_range.mp hi; omega)).1
    · intro hne
      have hlen : 0 < len := by
        rcases Nat.eq_zero_or_pos len with rfl | h
        · simp at hne
        · exact h
      obtain ⟨b, off, spot⟩ := a
      have hspot : spot = none := by
        have := World.cell?_spot (hq 0 (by omega)).2.1
        simpa [Addr.add] using this
      subst hspot
      refine ⟨b, off, rfl, fun j hj => ?_⟩
      have hj' : j < len := by simpa using hj
      obtain ⟨_, c0, c1⟩ := hq j (by omega)
      rw [WideShapes.add_plain, WideShapes.add_plain] at c0 c1
      have e : ((List.range len).map q).getD j Ak.zero = q j := by simp [hj']
      rw [e]
      exact ⟨c0, c1⟩
end Go.Proofs.Ytbeaefokpggmpaa
