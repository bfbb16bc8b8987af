import Derived.Test.YtgffncbmchimdaaSfS
/-! Images: the names in their order; a row of files of the call's own, each with bytes of its own. -/
namespace Go.Proofs.Ytgffncbmchimdaa
open Go.RowKit Go.Maps Plain
set_option linter.unusedVariables false
set_option linter.unusedSimpArgs false

/-- Names in their order. -/
def srt (ss : List (List UInt8)) : List (List UInt8) := ss.mergeSort (fun x y => decide (x ≤ y))
theorem srt_pw (ss : List (List UInt8)) : (srt ss).Pairwise (· ≤ ·) := by
  have := List.pairwise_mergeSort (le := fun x y : List UInt8 => decide (x ≤ y)) (fun a b c h k => by simp only [decide_eq_true_eq] at *; exact List.le_trans h k)
    (fun a b => by rw [Bool.or_eq_true, decide_eq_true_eq, decide_eq_true_eq]; exact List.le_total a b) ss
  exact this.imp (fun h => by simpa using h)
theorem srt_perm (ss : List (List UInt8)) : (srt ss).Perm ss := List.mergeSort_perm _ _
theorem srt_of {ss ts : List (List UInt8)} (h : ts.Perm ss) (hp : ts.Pairwise (· ≤ ·)) : srt ss = ts :=
  List.Perm.eq_of_pairwise (fun a b _ _ h k => List.le_antisymm h k) (srt_pw ss) hp ((srt_perm ss).trans h.symm)
theorem srt_eq {ss ts : List (List UInt8)} (h : ss.Perm ts) : srt ss = srt ts := srt_of ((srt_perm ts).trans h.symm) (srt_pw ts)
/-- The names of a directory, rising. -/
def nms (L : Dir) : List (List UInt8) := srt (L.map (·.1))
theorem nms_len (L : Dir) : (nms L).length = L.length := by rw [nms, (srt_perm _).length_eq, List.length_map]
theorem nms_mem {L : Dir} {k : List UInt8} : k ∈ nms L ↔ k ∈ L.map (·.1) := (srt_perm _).mem_iff

/-- v is a row of files of the call's own, which reads as im; its block and its files' blocks are new, and all apart. -/
structure ImgM (w : World) (v : Value) (im : List (List UInt8 × List Nat)) (base : Nat) (ts : List Fi) (r : Option Nat) (blk : Nat → Option Nat) : Prop where
  row : OwnI w v ts r
  len : ts.length = im.length
  one : ∀ j p, im[j]? = some p → ∃ dv, ts[j]? = some ⟨str p.1, dv⟩ ∧ Own w dv p.2 (blk j)
  rbase : ∀ g, r = some g → base ≤ g
  bbase : ∀ j g, blk j = some g → base ≤ g ∧ r ≠ some g
  out : ∀ j, im.length ≤ j → blk j = none
  apart : ∀ i j g, blk i = some g → blk j = some g → i = j
def ImgAt (w : World) (v : Value) (im : List (List UInt8 × List Nat)) (base : Nat) : Prop := ∃ ts r blk, ImgM w v im base ts r blk

theorem ImgM.live {w : World} {v : Value} {im : List (List UInt8 × List Nat)} {base : Nat} {ts : List Fi} {r : Option Nat} {blk : Nat → Option Nat} (h : ImgM w v im base ts r blk) {j g : Nat} (e : blk j = some g) : g < w.heap.size := by
  by_cases hj : j < im.length
  · obtain ⟨dv, _, ho⟩ := h.one j _ (List.getElem?_eq_getElem hj)
    rw [e] at ho
    exact ho.lt
  · rw [h.out j (by omega)] at e
    simp at e
theorem ImgM.frame {w w' : World} {v : Value} {im : List (List UInt8 × List Nat)} {base : Nat} {ts : List Fi} {r r' : Option Nat} {blk : Nat → Option Nat} (h : ImgM w v im base ts r blk) (k : w.grownBy w' r') (h1 : ∀ g, r' = some g → g < base) : ImgM w' v im base ts r blk := by
  refine ⟨h.row.kept k ?_, h.len, fun j p hp => ?_, h.rbase, h.bbase, h.out, h.apart⟩
  · cases r with
    | none => exact .inl rfl
    | some g => exact .inr (fun e => by have := h.rbase g rfl; have := h1 g e.symm; omega)
  · obtain ⟨dv, h2, h3⟩ := h.one j p hp
    refine ⟨dv, h2, h3.kept k ?_⟩
    cases hb : blk j with
    | none => exact .inl rfl
    | some g => exact .inr (fun e => by have := (h.bbase j g hb).1; have := h1 g e.symm; omega)
theorem ImgM.later {w w' : World} {v : Value} {im : List (List UInt8 × List Nat)} {base : Nat} {ts : List Fi} {r : Option Nat} {blk : Nat → Option Nat} (h : ImgM w v im base ts r blk) (k : Below w.heap.size w w') : ImgM w' v im base ts r blk := h.frame (below_grow k none) (by simp)
theorem ImgAt.frame {w w' : World} {v : Value} {im : List (List UInt8 × List Nat)} {base : Nat} {r' : Option Nat} (h : ImgAt w v im base) (k : w.grownBy w' r') (h1 : ∀ g, r' = some g → g < base) : ImgAt w' v im base := by
  obtain ⟨ts, r, blk, hm⟩ := h
  exact ⟨ts, r, blk, hm.frame k h1⟩
theorem ImgAt.later {w w' : World} {v : Value} {im : List (List UInt8 × List Nat)} {base : Nat} (h : ImgAt w v im base) (k : Below w.heap.size w w') : ImgAt w' v im base := h.frame (below_grow k none) (by simp)

/-- One file more: the row behind the append, which has left the files' bytes alone. -/
theorem ImgM.push {w w' : World} {v v' dv : Value} {im : List (List UInt8 × List Nat)} {base : Nat} {ts : List Fi} {r q : Option Nat} {blk : Nat → Option Nat} {k : List UInt8} {l : List Nat} {g' : Nat}
    (h : ImgM w v im base ts r blk) (ho : Own w dv l q) (hq : ∀ g, q = some g → base ≤ g ∧ r ≠ some g ∧ ∀ j, blk j ≠ some g)
    (hr : OwnI w' v' (ts ++ [⟨str k, dv⟩]) (some g')) (hg : w.grownBy w' r) (hg' : some g' = r ∨ g' = w.heap.size) (hbase : base ≤ w.heap.size) :
    ImgM w' v' (im ++ [(k, l)]) base (ts ++ [⟨str k, dv⟩]) (some g') (fun j => if j = im.length then q else blk j) := by
  have hlive : ∀ g, q = some g → g < w.heap.size := fun g e => by rw [e] at ho; exact ho.lt
  refine ⟨hr, by simp [h.len], fun j p hp => ?_, fun g e => ?_, fun j g e => ?_, fun j hj => ?_, fun i j g h1 h2 => ?_⟩
  · by_cases hj : j < im.length
    · rw [List.getElem?_append_left hj] at hp
      obtain ⟨d0, h2, h3⟩ := h.one j p hp
      refine ⟨d0, by rw [List.getElem?_append_left (by rw [h.len]; exact hj)]; exact h2, ?_⟩
      simp only [Nat.ne_of_lt hj, if_false]
      refine h3.kept hg ?_
      cases hb : blk j with
      | none => exact .inl rfl
      | some g => exact .inr (fun e => (h.bbase j g hb).2 e.symm)
    · rw [List.getElem?_append_right (by omega)] at hp
      have hj2 : j = im.length := by
        have := (List.getElem?_eq_some_iff.mp hp).1
        simp at this; omega
      subst hj2
      simp at hp
      subst hp
      refine ⟨dv, by rw [List.getElem?_append_right (by rw [h.len]; exact Nat.le_refl _), h.len]; simp, ?_⟩
      simp only [if_true]
      refine ho.kept hg ?_
      cases hb : q with
      | none => exact .inl rfl
      | some g => exact .inr (fun e => (hq g hb).2.1 e.symm)
  · simp at e
    subst e
    rcases hg' with e | e
    · exact h.rbase _ e.symm
    · omega
  · have hne : ∀ g, (base ≤ g ∧ r ≠ some g) → g < w.heap.size → base ≤ g ∧ some g' ≠ some g := fun g h1 h2 => ⟨h1.1, fun e => by
      simp at e
      subst e
      rcases hg' with e | e
      · exact h1.2 e.symm
      · omega⟩
    split at e
    · exact hne g ⟨(hq g e).1, (hq g e).2.1⟩ (hlive g e)
    · exact hne g (h.bbase j g e) (h.live e)
  · simp at hj
    simp only [show j ≠ im.length by omega, if_false]
    exact h.out j (by omega)
  · split at h1
    · rename_i e1
      split at h2
      · rename_i e2; omega
      · exact absurd h2 ((hq g h1).2.2 j)
    · split at h2
      · exact absurd h1 ((hq g h2).2.2 i)
      · exact h.apart i j g h1 h2
end Go.Proofs.Ytgffncbmchimdaa
