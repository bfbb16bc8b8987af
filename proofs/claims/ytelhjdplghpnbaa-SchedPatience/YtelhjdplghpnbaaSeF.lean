import Derived.Test.YtelhjdplghpnbaaSeE
import Derived.Test.YtelhjdplghpnbaaSeD
import Derived.Laws.IdiomArrays
/-! Rows of four truths that came in. -/
namespace Go.Proofs.Ytelhjdplghpnbaa
open Go.RowKit Go.Deep Go.ChangeShapes Go.WideShapes Go.ChangeAt Go.Joins Plain
set_option linter.unusedVariables false
set_option linter.unusedSimpArgs false

theorem bytes_B4j : Try.prog.bytesOf 27 = 4 := by kernel_rfl
def zeroB : Nat → Bool := fun _ => false
set_option maxRecDepth 100000 in
theorem open_b4 {H : Type} {enc : TypeId × Value → H} {W : World} {n : Nat} {a : Addr} {i : Nat} {x : DataW H × List MemPlace} {cs' : List Value} (h1 : W.cells? 0 (a.add (i * Try.prog.cellsOf 27)) (Try.prog.cellsOf 27) = some cs')
    (h2 : DataW.trod enc Try.prog W 0 (fun _ => true) true n 27 cs' = some x) :
    ∃ b : Nat → Bool, ∀ k, k < 4 → W.cell? ((a.add (i * 4)).add k) = some (.bool (b k)) := by
  rw [cellsB4] at h1
  obtain ⟨_, hlen0, hcell⟩ := World.cells?_some h1
  have hlen1 : cs'.length = 4 := by simpa using hlen0
  match cs', hlen1 with
  | [y0, y1, y2, y3], _ =>
  obtain ⟨z0, z1, z2, z3, m, -, t0, t1, t2, t3⟩ := trod_array4 Try.underlying27 cellsBo h2
  obtain ⟨n0, e0, _⟩ := DataW.trod_bool Try.underlying4 t0
  obtain ⟨n1, e1, _⟩ := DataW.trod_bool Try.underlying4 t1
  obtain ⟨n2, e2, _⟩ := DataW.trod_bool Try.underlying4 t2
  obtain ⟨n3, e3, _⟩ := DataW.trod_bool Try.underlying4 t3
  simp only [List.cons.injEq, and_true] at e0 e1 e2 e3
  subst e0 e1 e2 e3
  refine ⟨pick4 n0 n1 n2 n3, fun k hk => ?_⟩
  have hc := hcell k (by omega)
  rw [hc]
  rcases (by omega : k = 0 ∨ k = 1 ∨ k = 2 ∨ k = 3) with rfl | rfl | rfl | rfl <;> rfl
theorem open_wrks {H : Type} {enc : TypeId × Value → H} {W : World} {fuel : Nat} {v : Value} {x : DataW H × List MemPlace} (h : DataW.trod enc Try.prog W 0 (fun _ => true) true fuel 22 [v] = some x) (hsz : ∀ m ∈ x.1.weights Try.prog 22, m ≤ reachBytes) : ∃ (n : Nat) (bs : Nat → Nat → Bool), WrkAt W v n bs := by
  rcases open_slice Try.underlying22 h with ⟨hcs, hx⟩ | ⟨a, len, cap, m, n, D, PP, hcs, hb, hl, hm, hmm, hx, hel⟩
  · simp at hcs
    subst hcs
    exact ⟨0, fun _ => zeroB, none, 0, rfl, by omega, fun h => absurd rfl h⟩
  · simp at hcs
    subst hcs
    simp only [if_true] at hmm
    subst hmm
    have each : ∀ i, i < len → ∃ b : Nat → Bool, ∀ k, k < 4 → W.cell? ((a.add (i * 4)).add k) = some (.bool (b k)) := by
      intro i hi
      obtain ⟨cs', h1, h2⟩ := hel i (by omega)
      exact open_b4 h1 h2
    have iSt : Inhabited (Nat → Bool) := ⟨zeroB⟩
    obtain ⟨q, hq⟩ := choose_lt each
    have hbig : len ≤ 2305843009213693951 := by
      have := hsz _ (by rw [hx]; exact weights_slice Try.underlying22)
      rw [bytes_B4j] at this
      simp [reachBytes] at this
      omega
    refine ⟨len, q, some a, m, rfl, hbig, fun hne => ?_⟩
    obtain ⟨b, off, spot⟩ := a
    have hspot : spot = none := by
      have := World.cell?_spot (hq 0 (by omega) 0 (by omega))
      simpa [Addr.add] using this
    subst hspot
    refine ⟨b, off, rfl, fun j hj i hi => ?_⟩
    have := hq j hj i hi
    rw [WideShapes.add_plain, WideShapes.add_plain] at this
    exact this
end Go.Proofs.Ytelhjdplghpnbaa
