import Derived.Test.YtgffncbmchimdaaSfY
/-! What the operations keep true of a disk: files, names. -/
namespace Go.Proofs.Ytgffncbmchimdaa
open Go.RowKit Go.Maps Plain
set_option linter.unusedVariables false
set_option linter.unusedSimpArgs false

theorem Fl.Ok.seenLen {f : Fl} (h : f.Ok) : f.seen.length ≤ 70368744177664 := by
  have h2 := h.len f.chg.length
  rw [List.take_length, ← h.eq] at h2
  exact h2
theorem Fl.Ok.synced {f : Fl} (h : f.Ok) : (⟨f.seen, f.seen, []⟩ : Fl).Ok :=
  ⟨rfl, fun k n hk => by simp at hk, fun k => by have := h.seenLen; simpa [fst] using this, by simp⟩
theorem Fl.Ok.snoc {f : Fl} (h : f.Ok) (c : FC) (hc : ∀ m, c = FC.cut m → m ≤ f.seen.length) (hl : (FC.on f.seen c).length ≤ 70368744177664) (hn : f.chg.length ≤ 4398046511102) : (⟨FC.on f.seen c, f.dur, f.chg ++ [c]⟩ : Fl).Ok := by
  refine ⟨?_, fun j m hj => ?_, fun j => ?_, by simp; omega⟩
  · show FC.on f.seen c = fst f.dur (f.chg ++ [c])
    rw [fst_snoc, ← h.eq]
  · have hj' : (f.chg ++ [c])[j]? = some (FC.cut m) := hj
    show m ≤ (fst f.dur ((f.chg ++ [c]).take j)).length
    rw [getElem?_snoc] at hj'
    by_cases e : j = f.chg.length
    · rw [if_pos e] at hj'
      simp at hj'
      subst e
      rw [List.take_left, ← h.eq]
      exact hc m hj'
    · rw [if_neg e] at hj'
      have hlt := (List.getElem?_eq_some_iff.mp hj').1
      rw [List.take_append_of_le_length (by omega)]
      exact h.cut j m hj'
  · show (fst f.dur ((f.chg ++ [c]).take j)).length ≤ _
    by_cases e : j ≤ f.chg.length
    · rw [List.take_append_of_le_length e]
      exact h.len j
    · rw [List.take_of_length_le (by simp; omega), fst_snoc, ← h.eq]
      exact hl
theorem Fl.Ok.add {f : Fl} (h : f.Ok) (b : List Nat) (hl : f.seen.length + b.length ≤ 70368744177664) (hn : f.chg.length ≤ 4398046511102) : (f.add b).Ok :=
  h.snoc (FC.add b) (fun m e => by simp [FC.add, FC.cut] at e) (by rw [FC.on_add, List.length_append]; exact hl) hn
theorem Fl.Ok.trim {f : Fl} (h : f.Ok) (n : Nat) (hle : n ≤ f.seen.length) (hn : f.chg.length ≤ 4398046511102) : (f.trim n).Ok :=
  h.snoc (FC.cut n) (fun m e => by
    have : n = m := Sum.inr.inj e
    omega) (by rw [FC.on_cut, List.length_take]; have := h.seenLen; omega) hn
theorem Dk.Dok.setFile {k : Dk} {n G : Nat} {f : Fl} (h : k.Dok n) (hf : f.Ok) (hc : f.chg.length ≤ n) : (k.setFile G f).Dok n := by
  refine ⟨⟨h.ok.refs, fun G' hG' => ?_, h.ok.ops, h.ok.fuse⟩, h.dir, h.eq, h.cnt, h.few⟩
  show (upd k.file G f G').Ok ∧ (upd k.file G f G').chg.length ≤ n
  by_cases e : G' = G
  · subst e; rw [upd_same]; exact ⟨hf, hc⟩
  · rw [upd_other _ _ _ _ e]; exact h.ok.fok G' hG'
theorem sync_dok {k : Dk} {n : Nat} {s : ByteArray} (h : k.Dok n) : (syncK k s).2.Dok (n + 1) := by
  unfold syncK
  split
  · split
    · rename_i G hl
      split
      · exact h.spent.setFile (h.ok.fok G (h.ok.refs _ (look_mem hl))).1.synced (by simp)
      · exact h.spent
    · exact h.more (by omega)
  · exact h.more (by omega)
theorem append_dok {k : Dk} {n : Nat} {s : ByteArray} {b : List Nat} (h : k.Dok n) (hu : k.Uok) (hn : n ≤ 4398046511102) : (appendK k s b).2.Dok (n + 1) := by
  unfold appendK
  split
  · split
    · exact h.more (by omega)
    · rename_i hov
      split
      · rename_i G hl
        have hG := h.ok.refs _ (look_mem hl)
        have h1 := hu.each _ (look_mem hl)
        have h2 := hu.used
        have h3 := hu.quota
        split
        · refine (h.spent.setFile ((h.ok.fok G hG).1.add b ?_ ?_) ?_).uses _
          · simp only at h1; omega
          · have := (h.ok.fok G hG).2; omega
          · have := (h.ok.fok G hG).2; simp [Fl.add]; omega
        · exact h.spent
      · exact h.more (by omega)
  · exact h.more (by omega)
theorem trunc_dok {k : Dk} {n : Nat} {s : ByteArray} {m : Int} (h : k.Dok n) (hn : n ≤ 4398046511102) : (truncK k s m).2.Dok (n + 1) := by
  unfold truncK
  split
  · split
    · rename_i G hl
      have hG := h.ok.refs _ (look_mem hl)
      split
      · exact h.more (by omega)
      · rename_i hbad
        split
        · refine (h.spent.uses _).setFile ((h.ok.fok G hG).1.trim m.toNat ?_ ?_) ?_
          · omega
          · have := (h.ok.fok G hG).2; omega
          · have := (h.ok.fok G hG).2; simp [Fl.trim]; omega
        · exact h.spent
    · exact h.more (by omega)
  · exact h.more (by omega)
end Go.Proofs.Ytgffncbmchimdaa
