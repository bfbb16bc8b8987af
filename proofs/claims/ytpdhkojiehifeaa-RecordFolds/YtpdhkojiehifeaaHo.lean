import Derived.Test.YtpdhkojiehifeaaHn
/-! The law's own helpers: moved. -/
namespace Go.Proofs.Ytpdhkojiehifeaa
open Go.RowKit Plain
set_option linter.unusedVariables false

def mv (x : Rc) : Rc := ⟨x.k, wrap64 (x.o + 1), wrap64 (x.t - 1), x.p, x.q, x.key, x.val⟩

/-- The box of a record, turned. -/
def mvW (w : World) (x : Rc) : World := w.alloc (.cells #[.int .i64 x.k, .int .i64 (wrap64 (x.o + 1)), .int .i64 (wrap64 (x.t - 1)), .int .i64 x.p, .int .i64 x.q, .string x.key, .string x.val] 32)
theorem mvW_below (w : World) (x : Rc) : Below w.heap.size w (mvW w x) := (Below.refl _ _).alloc (Nat.le_refl _) _
theorem mvW_size (w : World) (x : Rc) : (mvW w x).heap.size = w.heap.size + 1 := by simp [mvW]
theorem src_mv (w : World) (x : Rc) : Src Try.prog 7 22 (.slice (some ⟨w.heap.size + 1, 0, none⟩) 1 1) [mv x].length (rcells [mv x]) ((mvW w x).alloc (.cells #[.int .i64 x.k, .int .i64 (wrap64 (x.o + 1)), .int .i64 (wrap64 (x.t - 1)), .int .i64 x.p, .int .i64 x.q, .string x.key, .string x.val] 32)) := by
  have := src_rec (mvW w x) (mv x)
  rw [mvW_size] at this
  exact this

set_option maxHeartbeats 1000000 in
theorem movedAny (v : Value) (st : List Rc) (w : World) (h : RecsAt w v st) :
    Calls Try.prog 5 #[v] w fun e w' => ∃ g cap, e = .returned (.slice (some ⟨g, 0, none⟩) st.length cap) ∧ OwnR w' (.slice (some ⟨g, 0, none⟩) (st.length + 1) cap) (st.map mv ++ [mkR (-77) 0]) (some g) ∧ w.heap.size ≤ g ∧ Below w.heap.size w w' := by
  obtain ⟨a, cap, rfl, hcl, hok, hcells⟩ := h
  have HC : Hid (st ≠ [] → ∃ b off, a = some ⟨b, off, none⟩ ∧ ∀ j, j < st.length → CellsAt w b (off + j * 7) (st.getD j Rc.none)) := hcells
  clear hcells hok
  go_enter Try.func5, Try.ntmps5
  go_wp2
  go_loopw [3, 4] (fun s3 s4 wr => ∃ (k : Nat) (q : Option Nat) (a3 : Option Addr) (c3 : Nat), k ≤ st.length ∧ s4 = .int .i64 k ∧ s3 = .slice a3 k c3 ∧ OwnR wr (.slice a3 k c3) ((st.take k).map mv) q ∧ (∀ g, q = some g → w.heap.size ≤ g) ∧ Below w.heap.size w wr) (fun _ i _ => st.length - (intOf i).toNat)
  case atStart => exact ⟨0, none, none, 0, by omega, rfl, rfl, OwnR.nil _, by simp, Below.refl _ _⟩
  case round =>
    obtain ⟨k, q, a3, c3, hk, rfl, rfl, hown, hq, hbl⟩ := hrel
    have HO : Hid (OwnR wr (.slice a3 k c3) ((st.take k).map mv) q) := hown
    have HQ : Hid (∀ g, q = some g → w.heap.size ≤ g) := hq
    have HBL : Hid (Below w.heap.size w wr) := hbl
    have HLN : Hid (((st.take k).map mv).length = k) := by unfold Hid; simp; omega
    clear hown hq hbl
    by_cases hlt : k < st.length
    · have hne : st ≠ [] := by rintro rfl; simp at hlt
      obtain ⟨b, off, rfl, hc⟩ := HC.out hne
      have hck := hc k hlt
      have hx := hck.block (HBL.out.block b hck.lt)
      have HT : Hid ((st.take (k + 1)).map mv = (st.take k).map mv ++ [mv (st.getD k Rc.none)]) := by unfold Hid; rw [take_snoc_r st k hlt, List.map_append]; rfl
      have HMB : Hid (Below wr.heap.size wr (mvW wr (st.getD k Rc.none))) := mvW_below _ _
      have HMS : Hid ((mvW wr (st.getD k Rc.none)).heap.size = wr.heap.size + 1) := mvW_size _ _
      have HSR : Hid _ := src_mv wr (st.getD k Rc.none)
      generalize st.getD k Rc.none = x at hx HT HMB HMS HSR
      generalize (st.take k).map mv = MS at HO HLN HT
      obtain ⟨xk, xo, xt, xp, xq, xkey, xval⟩ := x
      obtain ⟨c0, c1, c2, c3', c4, c5, c6⟩ := hx
      simp only at c0 c1 c2 c3' c4 c5 c6
      clear hck hc hne
      go_wp2_with (at_builtin; refine wpList_append_recs _ rfl _ _ rfl _ _ MS [mv ⟨xk, xo, xt, xp, xq, xkey, xval⟩] q rfl rfl ?hOwn ?hSrc ?hLen (.inr (Nat.succ_pos _)) ?_)
      case hOwn => exact HO.out.later (HMB.out.alloc HMB.out.size _)
      case hSrc => exact HSR.out
      case hLen => have := HLN.out; simp; omega
      intro v' w3 g3 ho3 hg3 hr3
      obtain ⟨a4, c4', rfl, hm3, -⟩ := ho3.shape
      have hl3 : (MS ++ [mv ⟨xk, xo, xt, xp, xq, xkey, xval⟩]).length = k + 1 := by have := HLN.out; simp; omega
      rw [hl3] at ho3 ⊢
      have HO3 : Hid (OwnR w3 (.slice a4 (k + 1) c4') ((st.take (k + 1)).map mv) (some g3)) := by unfold Hid; rw [HT.out]; exact ho3
      have HBA : Hid (Below w.heap.size w (mvW wr ⟨xk, xo, xt, xp, xq, xkey, xval⟩)) := below_on HBL.out HMB.out
      have HQ3 : Hid (∀ g, some g3 = some g → w.heap.size ≤ g) := fun g hg => by
        have h1 := HBL.out.size
        have h2 := HMS.out
        rcases hr3 with e | e
        · exact HQ.out g (e.symm.trans hg)
        · simp at hg
          have e' : g3 = (mvW wr ⟨xk, xo, xt, xp, xq, xkey, xval⟩).heap.size + 1 := e.trans (by simp [mvW])
          omega
      have HB3 : Hid (Below w.heap.size w w3) := (HBA.out.alloc HBA.out.size _).trans (grow_below hg3 (by have := HBA.out.size; simp; have := HBL.out.size; omega) HQ.out)
      clear ho3 hg3 hr3 hl3 hm3
      go_wp2
      go_roundw
      case rel => exact ⟨k + 1, some g3, a4, c4', by omega, by go_num, rfl, HO3.out, HQ3.out, HB3.out⟩
      case measure => simp [intOf]; omega
    · obtain rfl : k = st.length := by omega
      have HMP : Hid (OwnR wr (.slice a3 st.length c3) (st.map mv) q) := by have := HO.out; rwa [List.take_length] at this
      have HLM : Hid ((st.map mv).length = st.length) := by unfold Hid; simp
      obtain ⟨MS, hMS⟩ : ∃ MS, st.map mv = MS := ⟨_, rfl⟩
      rw [hMS] at HMP HLM
      have HMS : Hid (st.map mv = MS) := hMS
      clear HC HO HLN hMS
      go_wp2_with (at_builtin; refine wpList_append_recs _ rfl _ _ rfl _ _ MS [mkR (-77) 0] q rfl rfl ?hOwn2 ?hSrc2 ?hLen2 (.inr (Nat.succ_pos _)) ?_)
      case hOwn2 => exact HMP.out.later ((Below.refl _ _).alloc (Nat.le_refl _) _)
      case hSrc2 => exact src_mk wr (-77) 0
      case hLen2 => have := HLM.out; simp; omega
      intro v' w3 g3 ho3 hg3 hr3
      have hl3 : (MS ++ [mkR (-77) 0]).length = st.length + 1 := by have := HLM.out; simp; omega
      obtain ⟨c4', rfl, hcc, hmc⟩ : ∃ c4', v' = .slice (some ⟨g3, 0, none⟩) (st.length + 1) c4' ∧ st.length + 1 ≤ c4' ∧ c4' ≤ 9223372036854775807 := by
        rcases ho3 with ⟨_, h0, _⟩ | ⟨g, cap', e, rfl, hg, h1, h2, _⟩
        · simp at h0
        · rw [hl3] at h1 ⊢
          simp at e
          subst e
          exact ⟨cap', rfl, h1, by unfold maxLen at h2; omega⟩
      have HO3 : Hid (OwnR w3 (.slice (some ⟨g3, 0, none⟩) (st.length + 1) c4') (MS ++ [mkR (-77) 0]) (some g3)) := ho3
      have HQ3 : Hid (w.heap.size ≤ g3) := by
        have h1 := HBL.out.size
        unfold Hid
        rcases hr3 with e | rfl
        · exact HQ.out g3 e.symm
        · exact Nat.le_succ_of_le h1
      have HB3 : Hid (Below w.heap.size w w3) := (HBL.out.alloc HBL.out.size _).trans (grow_below hg3 (by have := HBL.out.size; simp; omega) HQ.out)
      clear ho3 hg3 hr3 hl3
      go_wp2
      go_ret
      exact ⟨g3, c4', rfl, by rw [HMS.out]; exact HO3.out, HQ3.out, HB3.out⟩
end Go.Proofs.Ytpdhkojiehifeaa
