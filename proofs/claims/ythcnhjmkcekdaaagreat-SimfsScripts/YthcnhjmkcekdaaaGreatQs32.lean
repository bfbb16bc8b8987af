import Derived.Test.YthcnhjmkcekdaaaGreatQs31
import Derived.Sort.Walk0
namespace Go.Proofs.YthcnhjmkcekdaaaGreat
open Go.RowKit Go.Maps Go.Sort Plain
set_option linter.unusedVariables false
set_option linter.unusedSimpArgs false
theorem leB_false {a b : Nm} (h : a ≤ b) (hne : a ≠ b) : leB b a = false := by
  unfold leB
  rw [bytesLess_eq]
  have e : ∀ x : Nm, (str x).toList = x := fun x => by rw [ByteArray.toList_eq, str_list]
  rw [e, e]
  have h1 : ¬ b < a := List.not_lt.mpr h
  have h2 : (b == a) = false := beq_eq_false_iff_ne.mpr (Ne.symm hne)
  rw [h2, decide_eq_false h1]; rfl
end Go.Proofs.YthcnhjmkcekdaaaGreat

namespace Go.Proofs.YthcnhjmkcekdaaaGreat
open Go.RowKit Go.Maps Plain
set_option linter.unusedVariables false
set_option linter.unusedSimpArgs false
/-- The names rise, as the map's listing has them. -/
def Up (L : Dir) : Prop := L.Pairwise (fun p q => bytesBefore p.1 q.1 = true)
theorem up_del {L : Dir} (h : Up L) (k : Nm) : Up (del L k) := List.Pairwise.filter _ h
theorem up_ins {x : Nm × Nat} : ∀ {L : Dir}, Up L → (∀ p ∈ L, p.1 ≠ x.1) → Up (ins x L)
  | [], h, hn => by simp [Up, ins]
  | y :: r, h, hn => by
    unfold ins
    have h1 := List.pairwise_cons.mp h
    by_cases e : (Lit.string x.1).before (.string y.1) = true
    · rw [if_pos e]
      refine List.pairwise_cons.mpr ⟨fun z hz => ?_, h⟩
      rcases List.mem_cons.mp hz with rfl | hz
      · exact e
      · exact WideShapes.bytes_trans _ _ _ e (h1.1 z hz)
    · rw [if_neg e]
      refine List.pairwise_cons.mpr ⟨fun z hz => ?_, up_ins h1.2 (fun p hp => hn p (List.mem_cons_of_mem _ hp))⟩
      rcases mem_ins hz with rfl | hz
      · rcases WideAt.bytes_total y.1 z.1 (hn y (List.mem_cons_self ..)) with h2 | h2
        · exact h2
        · exact (e h2).elim
      · exact h1.1 z hz
theorem up_put {L : Dir} (h : Up L) (k : Nm) (g : Nat) : Up (put L k g) := up_ins (up_del h k) (fun p hp => by
  have := (List.mem_filter.mp hp).2
  simpa using this)
theorem up_on {L : Dir} (h : Up L) (c : DC) : Up (DC.on L c) := by
  cases c using DC.elim with
  | mk k g => exact up_put h k g
  | mv a b =>
    rw [DC.on_mv]
    cases e : look L a with
    | none => exact h
    | some g => exact up_del (up_put h b g) a
  | rm k => exact up_del h k
theorem up_dst : ∀ (cs : List DC) {L : Dir}, Up L → Up (dst L cs)
  | [], L, h => h
  | c :: cs, L, h => up_dst cs (up_on h c)
/-- What has been durable rises: so does what is seen. -/
theorem Dk.up {k : Dk} {n : Nat} (hk : k.Dok n) (h : Up k.Ld) : Up k.L := by rw [hk.eq]; exact up_dst _ h
theorem chK_upd {k : Dk} {n G : Nat} {kd m : Int} {nm to' : ByteArray} {l : List Nat} (hk : k.Dok n) (h : Up k.Ld) : Up (chK k kd nm to' m l G).2.Ld := by
  have hL := Dk.up hk h
  unfold chK
  split
  · unfold createK
    split
    · exact h
    split
    · exact h
    split
    · exact h
    split
    · exact h
    · exact h
  split
  · unfold appendK
    split
    · split
      · exact h
      split
      · split
        · exact h
        · exact h
      · exact h
    · exact h
  split
  · unfold truncK
    split
    · split
      · split
        · exact h
        split
        · exact h
        · exact h
      · exact h
    · exact h
  split
  · unfold syncK
    split
    · split
      · split
        · exact h
        · exact h
      · exact h
    · exact h
  split
  · unfold syncDirK
    split
    · exact h
    split
    · exact hL
    · exact h
  split
  · unfold renameK
    split
    · exact h
    split
    · exact h
    split
    · split
      · exact h
      · exact h
    · exact h
  · unfold removeK
    split
    · split
      · exact h
      · exact h
    · exact h
end Go.Proofs.YthcnhjmkcekdaaaGreat

namespace Go.Proofs.YthcnhjmkcekdaaaGreat
open Go.RowKit Go.Maps Plain
set_option linter.unusedVariables false
set_option linter.unusedSimpArgs false
structure SInv (k : Dk) (n : Nat) : Prop where
  good : k.Good n
  past : k.Past
  nmd : k.Nmd
  up : Up k.Ld
theorem SInv.mono {k : Dk} {n m : Nat} (h : SInv k n) (hm : n ≤ m) : SInv k m := ⟨h.good.mono hm, h.past, h.nmd, h.up⟩
theorem SInv.chK {k : Dk} {n G : Nat} {kd m : Int} {nm to' : ByteArray} {l : List Nat} (h : SInv k n) (hs : nm.size ≤ maxLen) (ht : to'.size ≤ maxLen) (hn : n ≤ 4398046511102) (hG : ¬ k.live G) : SInv (chK k kd nm to' m l G).2 (n + 1) :=
  ⟨h.good.chK hs ht hn hG, h.past.chK h.good.dok, h.nmd.chK, chK_upd h.good.dok h.up⟩
/-- i of the names have been synced; the directory too. -/
theorem SyI.inv {L : Dir} {i n : Nat} {k : Dk} (h : SyI L i n k) (hu : Up k.Ld) : SInv k (n + i) := ⟨h.good, h.past, h.nmd, hu⟩
/-- Two disks that go the same way, what lasts of both still the image im. -/
structure TInv (im : List (Nm × List Nat)) (k1 k2 : Dk) (n m : Nat) : Prop where
  one : SInv k1 n
  two : SInv k2 m
  sib : ∃ R, Sib R k1 k2
  du1 : duK k1 = im
  du2 : duK k2 = im
theorem TInv.step {im : List (Nm × List Nat)} {k1 k2 : Dk} {n m' A B : Nat} {kd m : Int} {nm to' : ByteArray} {l : List Nat} (h : TInv im k1 k2 n m') (hs : nm.size ≤ maxLen) (ht : to'.size ≤ maxLen) (hn : n ≤ 4398046511102) (hm : m' ≤ 4398046511102) (hA : ¬ k1.live A) (hB : ¬ k2.live B) (h4 : kd ≠ 4) (h5 : kd ≠ 5) :
    (chK k1 kd nm to' m l A).1 = (chK k2 kd nm to' m l B).1 ∧ TInv im (chK k1 kd nm to' m l A).2 (chK k2 kd nm to' m l B).2 (n + 1) (m' + 1) := by
  obtain ⟨R, hR⟩ := h.sib
  obtain ⟨e, R', hR'⟩ := chK_R (kd := kd) (m := m) (nm := nm) (to := to') (l := l) hR (by rw [h.one.good.on.dead, h.two.good.on.dead]) h.one.good.on.can h.two.good.on.can hA hB
  exact ⟨e, h.one.chK hs ht hn hA, h.two.chK hs ht hm hB, ⟨R', hR'⟩, by rw [duK_chK h.one.past hA h4 h5]; exact h.du1, by rw [duK_chK h.two.past hB h4 h5]; exact h.du2⟩
/-- What the law asks of both at the end. -/
theorem TInv.ends {im : List (Nm × List Nat)} {k1 k2 : Dk} {n m : Nat} (h : TInv im k1 k2 n m) (ps : List Int) : crK k1 [] = im ∧ crK k2 [] = im ∧ imK k1 = imK k2 ∧ crK k1 ps = crK k2 ps := by
  obtain ⟨R, hR⟩ := h.sib
  exact ⟨by rw [crK_none, h.du1], by rw [crK_none, h.du2], hR.image, hR.crash ps⟩
end Go.Proofs.YthcnhjmkcekdaaaGreat
