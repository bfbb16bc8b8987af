import Derived.Test.YtgffncbmchimdaaSfZ
import Derived.Test.YtgffncbmchimdaaSfF
/-! What the operations on names keep true of a disk. -/
namespace Go.Proofs.Ytgffncbmchimdaa
open Go.RowKit Go.Maps Plain
set_option linter.unusedVariables false
set_option linter.unusedSimpArgs false

theorem Dk.Dok.did {k : Dk} {n : Nat} {c : DC} (h : k.Dok (n + 1)) (hcnt : k.chg.length ≤ n) (hc : c.can k.L) (hr : ∀ p ∈ DC.on k.L c, k.live p.2) (hl : (DC.on k.L c).length ≤ 65536) (hn : n ≤ 4398046511102) : (k.did c).Dok (n + 1) := by
  refine ⟨⟨hr, h.ok.fok, h.ok.ops, h.ok.fuse⟩, h.dir.snoc (by rw [← h.eq]; exact hc) (by rw [← h.eq]; omega) (by omega), ?_, ?_, hl⟩
  · show DC.on k.L c = dst k.Ld (k.chg ++ [c])
    rw [dst_snoc, ← h.eq]
  · show (k.chg ++ [c]).length ≤ n + 1
    simp; omega
theorem size_list (s : ByteArray) (hs : s.size ≤ maxLen) : s.data.toList.length ≤ maxLen := by rw [Array.length_toList]; exact hs
theorem remove_dok {k : Dk} {n : Nat} {s : ByteArray} (h : k.Dok n) (hs : s.size ≤ maxLen) (hn : n ≤ 4398046511102) : (removeK k s).2.Dok (n + 1) := by
  unfold removeK
  split
  · rename_i h0
    obtain ⟨G, hl, _⟩ := fnd_ok h0
    split
    · refine (h.spent.uses _).did h.cnt ⟨size_list s hs, G, hl⟩ (fun p hp => ?_) ?_ hn
      · exact h.ok.refs p (mem_del hp)
      · show (del k.L s.data.toList).length ≤ 65536
        have := len_del k.L s.data.toList
        have := h.few
        omega
    · exact h.spent
  · exact h.more (by omega)
theorem len_del_lt {L : Dir} {k : Nm} (h : ∃ p ∈ L, p.1 = k) : (del L k).length < L.length := by
  unfold del
  obtain ⟨p, hp, e⟩ := h
  exact List.length_filter_lt_length_iff_exists.mpr ⟨p, hp, by simp [e]⟩
theorem mem_ins_of {x p : Nm × Nat} : ∀ {L : Dir}, p ∈ L → p ∈ ins x L
  | [], h => by simp at h
  | y :: r, h => by
    unfold ins
    split
    · simp at h ⊢
      exact .inr h
    · simp at h ⊢
      rcases h with h | h
      · exact .inl h
      · exact .inr (mem_ins_of h)
theorem rename_dok {k : Dk} {n : Nat} {s t : ByteArray} (h : k.Dok n) (hs : s.size ≤ maxLen) (ht : t.size ≤ maxLen) (hn : n ≤ 4398046511102) : (renameK k s t).2.Dok (n + 1) := by
  unfold renameK
  split
  · exact h.more (by omega)
  · split
    · exact h.more (by omega)
    · rename_i hst
      split
      · rename_i h0
        obtain ⟨G, hl, _⟩ := fnd_ok h0
        have hl' : look k.L s.data.toList = some G := hl
        have hne : s.data.toList ≠ t.data.toList := fun e => hst (WideShapes.bytes_inj e)
        have hon : DC.on k.L (DC.mv s.data.toList t.data.toList) = del (put k.L t.data.toList G) s.data.toList := by rw [DC.on_mv, hl']; rfl
        split
        · refine (h.spent.uses _).did h.cnt ⟨size_list s hs, size_list t ht, G, hl⟩ (fun p hp => ?_) ?_ hn
          · have hp' : p ∈ DC.on k.L (DC.mv s.data.toList t.data.toList) := hp
            rw [hon] at hp'
            rcases mem_put (mem_del hp') with e | e
            · rw [e]; exact h.ok.refs (s.data.toList, G) (look_mem hl)
            · exact h.ok.refs p e
          · show (DC.on k.L (DC.mv s.data.toList t.data.toList)).length ≤ 65536
            rw [hon]
            have h1 : (del (put k.L t.data.toList G) s.data.toList).length < (put k.L t.data.toList G).length := by
              refine len_del_lt ⟨(s.data.toList, G), ?_, rfl⟩
              unfold put
              refine mem_ins_of (List.mem_filter.mpr ⟨look_mem hl, ?_⟩)
              show (!(s.data.toList == t.data.toList)) = true
              rw [beq_eq_false_iff_ne.mpr hne]; rfl
            have h2 := len_put k.L t.data.toList G
            have := h.few
            omega
        · exact h.spent
      · exact h.more (by omega)
theorem Dk.Dok.addFile {k : Dk} {n : Nat} (h : k.Dok n) (G : Nat) : (k.addFile G).Dok n := by
  refine ⟨⟨fun p hp => .inl (h.ok.refs p hp), fun G' hG' => ?_, h.ok.ops, h.ok.fuse⟩, h.dir, h.eq, h.cnt, h.few⟩
  show (upd k.file G ⟨[], [], []⟩ G').Ok ∧ (upd k.file G ⟨[], [], []⟩ G').chg.length ≤ n
  by_cases e : G' = G
  · subst e; rw [upd_same]
    exact ⟨⟨rfl, fun j m hj => by simp at hj, fun j => by simp [fst], by simp⟩, by simp⟩
  · rw [upd_other _ _ _ _ e]; exact h.ok.fok G' (hG'.resolve_right e)
theorem create_dok {k : Dk} {n G : Nat} {s : ByteArray} (h : k.Dok n) (hs : s.size ≤ maxLen) (hn : n ≤ 4398046511102) : (createK k s G).2.Dok (n + 1) := by
  unfold createK
  split
  · exact h.more (by omega)
  · split
    · exact h.more (by omega)
    · split
      · exact h.more (by omega)
      · rename_i hf
        split
        · refine (h.spent.addFile G).did h.cnt (size_list s hs) (fun p hp => ?_) ?_ hn
          · have hp' : p ∈ put k.L s.data.toList G := hp
            rcases mem_put hp' with e | e
            · rw [e]; exact .inr rfl
            · exact .inl (h.ok.refs p e)
          · show (put k.L s.data.toList G).length ≤ 65536
            have := len_put k.L s.data.toList G
            omega
        · exact h.spent
end Go.Proofs.Ytgffncbmchimdaa
