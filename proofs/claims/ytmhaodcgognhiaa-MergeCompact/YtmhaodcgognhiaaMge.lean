import Derived.Test.YtmhaodcgognhiaaMgr
import Derived.Maps.Own
import Derived.Maps.OwnOps
import Derived.Maps.Views
import Derived.Deep.Quiet
/-! merge: offsets that rise. -/
namespace Go.Proofs.Ytmhaodcgognhiaa
open Go.RowKit Plain
set_option linter.unusedVariables false
set_option linter.unusedSimpArgs false

def riseF (a : Int) : List Rc → Bool
  | [] => true
  | x :: r => decide (a < x.o) && (decide (x.o < 1099511627776) && riseF x.o r)
def aheadF (a : Int) : List Rc → Int
  | [] => a
  | x :: r => aheadF x.o r
theorem riseF_app (a : Int) : ∀ (xs ys : List Rc), riseF a (xs ++ ys) = (riseF a xs && riseF (aheadF a xs) ys)
  | [], ys => by simp [riseF, aheadF]
  | x :: xs, ys => by simp [riseF, aheadF, riseF_app x.o xs ys, Bool.and_assoc]
theorem aheadF_app (a : Int) : ∀ (xs ys : List Rc), aheadF a (xs ++ ys) = aheadF (aheadF a xs) ys
  | [], ys => rfl
  | x :: xs, ys => by simp [aheadF, aheadF_app x.o xs ys]
theorem riseF_no {a : Int} {x : Rc} {r : List Rc} (h : x.o ≤ a ∨ x.o ≥ 1099511627776) : riseF a (x :: r) = false := by
  simp only [riseF]
  rcases h with h | h
  · rw [show decide (a < x.o) = false by simp; omega]; rfl
  · rw [show decide (x.o < 1099511627776) = false by simp; omega]; simp
theorem riseF_yes {a : Int} {x : Rc} {r : List Rc} (h1 : a < x.o) (h2 : x.o < 1099511627776) : riseF a (x :: r) = riseF x.o r := by
  simp only [riseF]
  rw [show decide (a < x.o) = true by simp; omega, show decide (x.o < 1099511627776) = true by simp; omega]
  rfl
theorem drop_r (st : List Rc) (k : Nat) (h : k < st.length) : st.drop k = st.getD k Rc.none :: st.drop (k + 1) := by
  rw [List.drop_eq_getElem_cons h]
  simp [h]

/-- Two lists, in a block of their own. -/
structure TwoL (w : World) (G : Nat) (v0 v1 : Value) (se la : List Rc) : Prop where
  c0 : w.cell? ⟨G, 0, none⟩ = some v0
  c1 : w.cell? ⟨G, 1, none⟩ = some v1
  r0 : RecsAt w v0 se
  r1 : RecsAt w v1 la
theorem TwoL.later {w u : World} {G : Nat} {v0 v1 : Value} {se la : List Rc} (h : TwoL w G v0 v1 se la) (hb : Below w.heap.size w u) : TwoL u G v0 v1 se la := by
  have hg : u.heap[G]? = w.heap[G]? := hb.block G (cell_lt h.c0)
  exact ⟨by rw [World.cell?_of_block (w := w) (a := ⟨G, 0, none⟩) hg]; exact h.c0, by rw [World.cell?_of_block (w := w) (a := ⟨G, 1, none⟩) hg]; exact h.c1, h.r0.later hb, h.r1.later hb⟩
/-- What is left at the k-th of the two lists. -/
def leftL (se la : List Rc) : Nat → List Rc
  | 0 => se ++ la
  | 1 => la
  | _ => []
theorem TwoL.pick {w : World} {G : Nat} {v0 v1 : Value} {se la : List Rc} (h : TwoL w G v0 v1 se la) {k : Nat} (hk : k < 2) : ∃ v st, w.cell? ⟨G, k, none⟩ = some v ∧ RecsAt w v st ∧ leftL se la k = st ++ leftL se la (k + 1) := by
  rcases (by omega : k = 0 ∨ k = 1) with rfl | rfl
  · exact ⟨v0, se, h.c0, h.r0, rfl⟩
  · exact ⟨v1, la, h.c1, h.r1, by simp [leftL]⟩

set_option maxHeartbeats 2000000 in
theorem riseOf (G : Nat) (v0 v1 : Value) (se la : List Rc) (w : World) (h : TwoL w G v0 v1 se la) :
    Calls Try.prog 24 #[.slice (some ⟨G, 0, none⟩) 2 2] w fun e w' => e = .returned (.bool (riseF (-1) (se ++ la))) ∧ Below w.heap.size w w' := by
  have HT : Hid (TwoL w G v0 v1 se la) := h
  clear h
  go_enter Try.func24, Try.ntmps24
  go_wp2
  go_loopw [3, 10] (fun s3 s10 wr => ∃ (k : Nat) (A : Int), k ≤ 2 ∧ s10 = .int .i64 k ∧ s3 = .int .i64 A ∧ riseF (-1) (se ++ la) = riseF A (leftL se la k) ∧ Below w.heap.size w wr) (fun _ i _ => 2 - (intOf i).toNat)
  case atStart => exact ⟨0, -1, by omega, rfl, rfl, rfl, Below.refl _ _⟩
  case round =>
    obtain ⟨k, A, hk, rfl, rfl, hA, hbl⟩ := hrel
    have HA : Hid (riseF (-1) (se ++ la) = riseF A (leftL se la k)) := hA
    have HB : Hid (Below w.heap.size w wr) := hbl
    clear hA hbl
    by_cases hlt : k < 2
    · obtain ⟨v, st, hcv, hst, hleft⟩ := (HT.out.later HB.out).pick hlt
      have HL : Hid (leftL se la k = st ++ leftL se la (k + 1)) := hleft
      obtain ⟨a, cap, rfl, hcl, hok, hcells⟩ := hst
      have HC : Hid (st ≠ [] → ∃ b off, a = some ⟨b, off, none⟩ ∧ ∀ j, j < st.length → CellsAt wr b (off + j * 7) (st.getD j Rc.none)) := hcells
      clear hcells hok hleft
      have HBO : Hid (Below w.heap.size w wr) := HB.out
      clear HB
      obtain ⟨wo, hwo⟩ : ∃ wo, wo = wr := ⟨_, rfl⟩
      subst hwo
      go_wp2
      go_loopw [3, 16] (fun s3 sj wx => ∃ (j : Nat) (B : Int), j ≤ st.length ∧ sj = .int .i64 j ∧ s3 = .int .i64 B ∧ riseF (-1) (se ++ la) = riseF B (st.drop j ++ leftL se la (k + 1)) ∧ Below wo.heap.size wo wx) (fun _ i _ => st.length - (intOf i).toNat)
      case atStart => exact ⟨0, A, by omega, rfl, rfl, by rw [HA.out, HL.out]; rfl, Below.refl _ _⟩
      case round =>
        obtain ⟨j, B, hj, rfl, rfl, hB, hbx⟩ := hrel
        have HBB : Hid (riseF (-1) (se ++ la) = riseF B (st.drop j ++ leftL se la (k + 1))) := hB
        have HBX : Hid (Below wo.heap.size wo wr) := hbx
        clear hB hbx HA
        by_cases hjl : j < st.length
        · have hne : st ≠ [] := by rintro rfl; simp at hjl
          obtain ⟨b, off, rfl, hc⟩ := HC.out hne
          have hck := hc j hjl
          have hck' := hck.block (HBX.out.block b hck.lt)
          have HD : Hid (st.drop j ++ leftL se la (k + 1) = st.getD j Rc.none :: (st.drop (j + 1) ++ leftL se la (k + 1))) := by unfold Hid; rw [drop_r st j hjl]; rfl
          generalize st.getD j Rc.none = x at hck' HD
          have HNO : Hid (x.o ≤ B ∨ x.o ≥ 1099511627776 → riseF (-1) (se ++ la) = false) := fun h => by rw [HBB.out, HD.out]; exact riseF_no h
          have HYS : Hid (B < x.o → x.o < 1099511627776 → riseF (-1) (se ++ la) = riseF x.o (st.drop (j + 1) ++ leftL se la (k + 1))) := fun h1 h2 => by rw [HBB.out, HD.out]; exact riseF_yes h1 h2
          obtain ⟨xk, xo, xt, xp, xq, xkey, xval⟩ := x
          obtain ⟨c0, c1, c2, c3, c4, c5, c6⟩ := hck'
          simp only at c0 c1 c2 c3 c4 c5 c6 HNO HYS
          have HBA : Hid (Below wo.heap.size wo (wr.alloc (.cells #[.int .i64 xk, .int .i64 xo, .int .i64 xt, .int .i64 xp, .int .i64 xq, .string xkey, .string xval] 33))) := HBX.out.alloc HBX.out.size _
          clear hck hc hne HBB HD
          by_cases h1 : xo ≤ B
          · have HN : Hid (riseF (-1) (se ++ la) = false) := HNO.out (.inl h1)
            go_wp2
            go_ret
            exact ⟨by rw [HN.out]; rfl, below_on HBO.out HBA.out⟩
          · by_cases h2 : xo ≥ 1099511627776
            · have HN : Hid (riseF (-1) (se ++ la) = false) := HNO.out (.inr h2)
              go_wp2
              go_ret
              exact ⟨by rw [HN.out]; rfl, below_on HBO.out HBA.out⟩
            · have HN : Hid (riseF (-1) (se ++ la) = riseF xo (st.drop (j + 1) ++ leftL se la (k + 1))) := HYS.out (by omega) (by omega)
              go_wp2
              go_roundw
              case rel => exact ⟨j + 1, xo, by omega, by go_num, rfl, HN.out, HBA.out⟩
              case measure => simp [intOf]; omega
        · obtain rfl : j = st.length := by omega
          have HN : Hid (riseF (-1) (se ++ la) = riseF B (leftL se la (k + 1))) := by have := HBB.out; rwa [List.drop_length, List.nil_append] at this
          clear HC HBB
          go_wp2
          go_roundw
          case rel => exact ⟨k + 1, B, by omega, by go_num, rfl, HN.out, below_on HBO.out HBX.out⟩
          case measure => simp [intOf]; omega
    · obtain rfl : k = 2 := by omega
      have HN : Hid (riseF (-1) (se ++ la) = true) := by unfold Hid; rw [HA.out]; rfl
      go_wp2
      go_ret
      exact ⟨by rw [HN.out]; rfl, HB.out⟩
end Go.Proofs.Ytmhaodcgognhiaa
