import Derived.Test.YtbeaefokpggmpabQtk
import Derived.Test.YtbeaefokpggmpabRows
import Derived.ProofKit
import Derived.OpenShut
import Derived.SizedLaws
import Derived.ChangeSlices
import Derived.Deep.Slices
/-! quota: slices of numbers that came in. -/
namespace Go.Proofs.Ytbeaefokpggmpab
open Go.RowKit Go.Deep Go.ChangeShapes Go.WideShapes
set_option linter.unusedVariables false
set_option linter.unusedSimpArgs false

theorem bytes_2 : Try.prog.bytesOf 2 = 8 := by kernel_rfl
theorem i64_of {n : Int} (h : (Lit.int .i64 n).wf = true) : I64 n := by
  have := bounds_i64 h
  unfold I64; omega
theorem open_nums {H : Type} {enc : TypeId × Value → H} {W : World} {fuel : Nat} {v : Value} {x : DataW H × List MemPlace} (h : DataW.trod enc Try.prog W 0 (fun _ => true) true fuel 22 [v] = some x) (hsz : ∀ el sp, x.1 = .slice el sp → (el.length + sp.length) * Try.prog.bytesOf 2 ≤ reachBytes) :
    ∃ l : List Int, NumsAt W v l ∧ l.length ≤ 17592186044416 := by
  rcases open_ints Try.underlying22 Try.underlying2 (by kernel_rfl) h with ⟨hcs, _⟩ | ⟨x, l, c, zs, hcs, _, hl, hm, hz, hx, hcell, hwz⟩
  · simp at hcs
    subst hcs
    exact ⟨[], ⟨none, 0, rfl, by simp, by simp, by simp, by simp⟩, by simp⟩
  · simp at hcs
    subst hcs
    simp only [if_true] at hz
    have hbig := hsz _ _ (by rw [hx])
    rw [bytes_2] at hbig
    have hlen : l ≤ 17592186044416 := by simp [lits, reachBytes] at hbig; omega
    have htl : (zs.take l).length = l := by simp; omega
    refine ⟨zs.take l, ⟨some x, c, by rw [htl], by rw [htl]; exact hl, hm, fun z hzm => ?_, fun hne => ?_⟩, by rw [htl]; exact hlen⟩
    · exact i64_of (hwz z (List.mem_of_mem_take hzm))
    · have hl0 : 0 < l := by
        rcases Nat.eq_zero_or_pos l with rfl | h
        · simp at hne
        · exact h
      obtain ⟨b, off, spot⟩ := x
      have hspot : spot = none := by
        have := World.cell?_spot (hcell 0 (by omega))
        simpa [Addr.add] using this
      subst hspot
      refine ⟨b, off, rfl, fun j hj => ?_⟩
      rw [htl] at hj
      have hc := hcell j (by omega)
      rw [WideShapes.add_plain] at hc
      have e : (zs.take l).getD j 0 = zs.getD j 0 := by simp [List.getD_eq_getElem?_getD, hj]
      rw [hc, e]
end Go.Proofs.Ytbeaefokpggmpab
