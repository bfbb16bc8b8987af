import Derived.Test.YtgffncbmchimdaaSfJ
/-! What the operations keep true of a disk. -/
namespace Go.Proofs.Ytgffncbmchimdaa
open Go.RowKit Go.Maps Plain
set_option linter.unusedVariables false
set_option linter.unusedSimpArgs false

theorem Dk.Ok.more {k : Dk} {n m : Nat} (h : k.Ok n) (hm : n ≤ m) : k.Ok m := ⟨h.refs, fun G hG => ⟨(h.fok G hG).1, Nat.le_trans (h.fok G hG).2 hm⟩, ⟨h.ops.1, by have := h.ops.2; omega⟩, h.fuse⟩
theorem Dk.Ok.spent {k : Dk} {n : Nat} (h : k.Ok n) : k.spent.Ok (n + 1) := by
  obtain ⟨o1, o2⟩ := h.ops
  refine ⟨h.refs, fun G hG => ⟨(h.fok G hG).1, Nat.le_succ_of_le (h.fok G hG).2⟩, ?_, ?_⟩
  · show 0 ≤ (spd k.ops k.fused k.left k.dead).2.1 ∧ (spd k.ops k.fused k.left k.dead).2.1 ≤ ((n + 1 : Nat) : Int)
    unfold spd
    split <;> (constructor <;> simp <;> omega)
  · intro hf
    have hf' : k.fused = true := hf
    obtain ⟨l1, l2⟩ := h.fuse hf'
    show 0 ≤ (spd k.ops k.fused k.left k.dead).2.2.1 ∧ (spd k.ops k.fused k.left k.dead).2.2.1 ≤ 9223372036854775807
    unfold spd
    rw [hf']
    by_cases h0 : k.left = 0
    · simp [h0]
    · simp [h0]
      omega
theorem Dk.Dok.more {k : Dk} {n m : Nat} (h : k.Dok n) (hm : n ≤ m) : k.Dok m := ⟨h.ok.more hm, h.dir, h.eq, Nat.le_trans h.cnt hm, h.few⟩
theorem Dk.Dok.spent {k : Dk} {n : Nat} (h : k.Dok n) : k.spent.Dok (n + 1) := ⟨h.ok.spent, h.dir, h.eq, Nat.le_succ_of_le h.cnt, h.few⟩
theorem Dk.Dok.settled {k : Dk} {n : Nat} (h : k.Dok n) : k.settled.Dok n :=
  ⟨⟨h.ok.refs, h.ok.fok, h.ok.ops, h.ok.fuse⟩, ⟨fun j c hc => by simp [Dk.settled] at hc, fun j => by have := h.few; simp [Dk.settled, dst]; omega, by simp [Dk.settled]⟩, rfl, by simp [Dk.settled], h.few⟩
theorem Dk.Dok.uses {k : Dk} {n : Nat} (h : k.Dok n) (u : Int) : (k.uses u).Dok n := ⟨⟨h.ok.refs, h.ok.fok, h.ok.ops, h.ok.fuse⟩, h.dir, h.eq, h.cnt, h.few⟩
theorem syncDir_dok {k : Dk} {n : Nat} (h : k.Dok n) : (syncDirK k).2.Dok (n + 1) := by
  unfold syncDirK
  split
  · exact h.more (by omega)
  · split
    · exact h.spent.settled
    · exact h.spent
theorem DOk.snoc {L : Dir} {cs : List DC} {c : DC} (h : DOk L cs) (hc : c.can (dst L cs)) (hl : (DC.on (dst L cs) c).length < 4398046511104) (hn : cs.length ≤ 4398046511102) : DOk L (cs ++ [c]) := by
  refine ⟨fun j x hj => ?_, fun j => ?_, by simp; omega⟩
  · rw [getElem?_snoc] at hj
    by_cases e : j = cs.length
    · rw [if_pos e] at hj
      simp at hj
      subst hj e
      rw [List.take_left]
      exact hc
    · rw [if_neg e] at hj
      have hlt := (List.getElem?_eq_some_iff.mp hj).1
      rw [List.take_append_of_le_length (by omega)]
      exact h.can j x hj
  · by_cases e : j ≤ cs.length
    · rw [List.take_append_of_le_length e]
      exact h.len j
    · rw [List.take_of_length_le (by simp; omega), dst_snoc]
      exact hl
theorem mem_ins {x p : Nm × Nat} : ∀ {L : Dir}, p ∈ ins x L → p = x ∨ p ∈ L
  | [], h => by simp [ins] at h; exact .inl h
  | y :: r, h => by
    unfold ins at h
    split at h
    · simp at h
      rcases h with h | h | h
      · exact .inl h
      · exact .inr (by simp [h])
      · exact .inr (by simp [h])
    · simp at h
      rcases h with h | h
      · exact .inr (by simp [h])
      · rcases mem_ins h with h | h
        · exact .inl h
        · exact .inr (by simp [h])
theorem mem_del {p : Nm × Nat} {L : Dir} {k : Nm} (h : p ∈ del L k) : p ∈ L := (List.mem_filter.mp h).1
theorem mem_put {p : Nm × Nat} {L : Dir} {k : Nm} {g : Nat} (h : p ∈ put L k g) : p = (k, g) ∨ p ∈ L := by
  rcases mem_ins h with h | h
  · exact .inl h
  · exact .inr (mem_del h)
theorem len_ins (x : Nm × Nat) : ∀ L : Dir, (ins x L).length = L.length + 1
  | [] => rfl
  | y :: r => by
    unfold ins
    split
    · simp
    · simp [len_ins x r]
theorem len_del (L : Dir) (k : Nm) : (del L k).length ≤ L.length := List.length_filter_le _ _
theorem len_put (L : Dir) (k : Nm) (g : Nat) : (put L k g).length ≤ L.length + 1 := by
  unfold put
  rw [len_ins]
  have := len_del L k
  omega
end Go.Proofs.Ytgffncbmchimdaa
