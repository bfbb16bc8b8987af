import Derived.Test.YthcnhjmkcekdaaaGreatQs13
import Derived.Test.YthcnhjmkcekdaaaGreatQs12
import Derived.Test.YthcnhjmkcekdaaaGreatQs06
import Derived.Laws.Small
namespace Go.Proofs.YthcnhjmkcekdaaaGreat
open Go.RowKit Go.Maps Plain
set_option linter.unusedVariables false
set_option linter.unusedSimpArgs false
theorem Dk.Ok.more {k : Dk} {n m : Nat} (h : k.Ok n) (hm : n ≤ m) : k.Ok m := ⟨h.refs, fun G hG => ⟨(h.fok G hG).1, Nat.le_trans (h.fok G hG).2 hm⟩, ⟨h.ops.1, by have := h.ops.2; omega⟩, h.fuse⟩
theorem Dk.Ok.spent {k : Dk} {n : Nat} (h : k.Ok n) : k.spent.Ok (n + 1) := by
  obtain ⟨o1, o2⟩ := h.ops
  refine ⟨h.refs, fun G hG => ⟨(h.fok G hG).1, Nat.le_succ_of_le (h.fok G hG).2⟩, ?_, ?_⟩
  · show 0 ≤ (spd k.ops k.fused k.left k.dead).2.1 ∧ (spd k.ops k.fused k.left k.dead).2.1 ≤ ((n + 1 : Nat) : Int)
    unfold spd
    split <;> (constructor <;> simp <;> omega)
  · intro hf
    have hf' : k.fused = true := hf
    obtain ⟨l1, l2⟩ := h.fuse hf'
    show 0 ≤ (spd k.ops k.fused k.left k.dead).2.2.1 ∧ (spd k.ops k.fused k.left k.dead).2.2.1 ≤ 9223372036854775807
    unfold spd
    rw [hf']
    by_cases h0 : k.left = 0
    · simp [h0]
    · simp [h0]
      omega
theorem Dk.Dok.more {k : Dk} {n m : Nat} (h : k.Dok n) (hm : n ≤ m) : k.Dok m := ⟨h.ok.more hm, h.dir, h.eq, Nat.le_trans h.cnt hm, h.few⟩
theorem Dk.Dok.spent {k : Dk} {n : Nat} (h : k.Dok n) : k.spent.Dok (n + 1) := ⟨h.ok.spent, h.dir, h.eq, Nat.le_succ_of_le h.cnt, h.few⟩
theorem Dk.Dok.settled {k : Dk} {n : Nat} (h : k.Dok n) : k.settled.Dok n :=
  ⟨⟨h.ok.refs, h.ok.fok, h.ok.ops, h.ok.fuse⟩, ⟨fun j c hc => by simp [Dk.settled] at hc, fun j => by have := h.few; simp [Dk.settled, dst]; omega, by simp [Dk.settled]⟩, rfl, by simp [Dk.settled], h.few⟩
theorem Dk.Dok.uses {k : Dk} {n : Nat} (h : k.Dok n) (u : Int) : (k.uses u).Dok n := ⟨⟨h.ok.refs, h.ok.fok, h.ok.ops, h.ok.fuse⟩, h.dir, h.eq, h.cnt, h.few⟩
theorem syncDir_dok {k : Dk} {n : Nat} (h : k.Dok n) : (syncDirK k).2.Dok (n + 1) := by
  unfold syncDirK
  split
  · exact h.more (by omega)
  · split
    · exact h.spent.settled
    · exact h.spent
theorem DOk.snoc {L : Dir} {cs : List DC} {c : DC} (h : DOk L cs) (hc : c.can (dst L cs)) (hl : (DC.on (dst L cs) c).length < 4398046511104) (hn : cs.length ≤ 4398046511102) : DOk L (cs ++ [c]) := by
  refine ⟨fun j x hj => ?_, fun j => ?_, by simp; omega⟩
  · rw [getElem?_snoc] at hj
    by_cases e : j = cs.length
    · rw [if_pos e] at hj
      simp at hj
      subst hj e
      rw [List.take_left]
      exact hc
    · rw [if_neg e] at hj
      have hlt := (List.getElem?_eq_some_iff.mp hj).1
      rw [List.take_append_of_le_length (by omega)]
      exact h.can j x hj
  · by_cases e : j ≤ cs.length
    · rw [List.take_append_of_le_length e]
      exact h.len j
    · rw [List.take_of_length_le (by simp; omega), dst_snoc]
      exact hl
theorem mem_ins {x p : Nm × Nat} : ∀ {L : Dir}, p ∈ ins x L → p = x ∨ p ∈ L
  | [], h => by simp [ins] at h; exact .inl h
  | y :: r, h => by
    unfold ins at h
    split at h
    · simp at h
      rcases h with h | h | h
      · exact .inl h
      · exact .inr (by simp [h])
      · exact .inr (by simp [h])
    · simp at h
      rcases h with h | h
      · exact .inr (by simp [h])
      · rcases mem_ins h with h | h
        · exact .inl h
        · exact .inr (by simp [h])
theorem mem_del {p : Nm × Nat} {L : Dir} {k : Nm} (h : p ∈ del L k) : p ∈ L := (List.mem_filter.mp h).1
theorem mem_put {p : Nm × Nat} {L : Dir} {k : Nm} {g : Nat} (h : p ∈ put L k g) : p = (k, g) ∨ p ∈ L := by
  rcases mem_ins h with h | h
  · exact .inl h
  · exact .inr (mem_del h)
theorem len_ins (x : Nm × Nat) : ∀ L : Dir, (ins x L).length = L.length + 1
  | [] => rfl
  | y :: r => by
    unfold ins
    split
    · simp
    · simp [len_ins x r]
theorem len_del (L : Dir) (k : Nm) : (del L k).length ≤ L.length := List.length_filter_le _ _
theorem len_put (L : Dir) (k : Nm) (g : Nat) : (put L k g).length ≤ L.length + 1 := by
  unfold put
  rw [len_ins]
  have := len_del L k
  omega
end Go.Proofs.YthcnhjmkcekdaaaGreat

namespace Go.Proofs.YthcnhjmkcekdaaaGreat
open Go.RowKit Go.Maps Plain
set_option linter.unusedVariables false
set_option linter.unusedSimpArgs false
theorem Fl.Ok.seenLen {f : Fl} (h : f.Ok) : f.seen.length ≤ 70368744177664 := by
  have h2 := h.len f.chg.length
  rw [List.take_length, ← h.eq] at h2
  exact h2
theorem Fl.Ok.synced {f : Fl} (h : f.Ok) : (⟨f.seen, f.seen, []⟩ : Fl).Ok :=
  ⟨rfl, fun k n hk => by simp at hk, fun k => by have := h.seenLen; simpa [fst] using this, by simp⟩
theorem Fl.Ok.snoc {f : Fl} (h : f.Ok) (c : FC) (hc : ∀ m, c = FC.cut m → m ≤ f.seen.length) (hl : (FC.on f.seen c).length ≤ 70368744177664) (hn : f.chg.length ≤ 4398046511102) : (⟨FC.on f.seen c, f.dur, f.chg ++ [c]⟩ : Fl).Ok := by
  refine ⟨?_, fun j m hj => ?_, fun j => ?_, by simp; omega⟩
  · show FC.on f.seen c = fst f.dur (f.chg ++ [c])
    rw [fst_snoc, ← h.eq]
  · have hj' : (f.chg ++ [c])[j]? = some (FC.cut m) := hj
    show m ≤ (fst f.dur ((f.chg ++ [c]).take j)).length
    rw [getElem?_snoc] at hj'
    by_cases e : j = f.chg.length
    · rw [if_pos e] at hj'
      simp at hj'
      subst e
      rw [List.take_left, ← h.eq]
      exact hc m hj'
    · rw [if_neg e] at hj'
      have hlt := (List.getElem?_eq_some_iff.mp hj').1
      rw [List.take_append_of_le_length (by omega)]
      exact h.cut j m hj'
  · show (fst f.dur ((f.chg ++ [c]).take j)).length ≤ _
    by_cases e : j ≤ f.chg.length
    · rw [List.take_append_of_le_length e]
      exact h.len j
    · rw [List.take_of_length_le (by simp; omega), fst_snoc, ← h.eq]
      exact hl
theorem Fl.Ok.add {f : Fl} (h : f.Ok) (b : List Nat) (hl : f.seen.length + b.length ≤ 70368744177664) (hn : f.chg.length ≤ 4398046511102) : (f.add b).Ok :=
  h.snoc (FC.add b) (fun m e => by simp [FC.add, FC.cut] at e) (by rw [FC.on_add, List.length_append]; exact hl) hn
theorem Fl.Ok.trim {f : Fl} (h : f.Ok) (n : Nat) (hle : n ≤ f.seen.length) (hn : f.chg.length ≤ 4398046511102) : (f.trim n).Ok :=
  h.snoc (FC.cut n) (fun m e => by
    have : n = m := Sum.inr.inj e
    omega) (by rw [FC.on_cut, List.length_take]; have := h.seenLen; omega) hn
theorem Dk.Dok.setFile {k : Dk} {n G : Nat} {f : Fl} (h : k.Dok n) (hf : f.Ok) (hc : f.chg.length ≤ n) : (k.setFile G f).Dok n := by
  refine ⟨⟨h.ok.refs, fun G' hG' => ?_, h.ok.ops, h.ok.fuse⟩, h.dir, h.eq, h.cnt, h.few⟩
  show (upd k.file G f G').Ok ∧ (upd k.file G f G').chg.length ≤ n
  by_cases e : G' = G
  · subst e; rw [upd_same]; exact ⟨hf, hc⟩
  · rw [upd_other _ _ _ _ e]; exact h.ok.fok G' hG'
theorem sync_dok {k : Dk} {n : Nat} {s : ByteArray} (h : k.Dok n) : (syncK k s).2.Dok (n + 1) := by
  unfold syncK
  split
  · split
    · rename_i G hl
      split
      · exact h.spent.setFile (h.ok.fok G (h.ok.refs _ (look_mem hl))).1.synced (by simp)
      · exact h.spent
    · exact h.more (by omega)
  · exact h.more (by omega)
theorem append_dok {k : Dk} {n : Nat} {s : ByteArray} {b : List Nat} (h : k.Dok n) (hu : k.Uok) (hn : n ≤ 4398046511102) : (appendK k s b).2.Dok (n + 1) := by
  unfold appendK
  split
  · split
    · exact h.more (by omega)
    · rename_i hov
      split
      · rename_i G hl
        have hG := h.ok.refs _ (look_mem hl)
        have h1 := hu.each _ (look_mem hl)
        have h2 := hu.used
        have h3 := hu.quota
        split
        · refine (h.spent.setFile ((h.ok.fok G hG).1.add b ?_ ?_) ?_).uses _
          · simp only at h1; omega
          · have := (h.ok.fok G hG).2; omega
          · have := (h.ok.fok G hG).2; simp [Fl.add]; omega
        · exact h.spent
      · exact h.more (by omega)
  · exact h.more (by omega)
theorem trunc_dok {k : Dk} {n : Nat} {s : ByteArray} {m : Int} (h : k.Dok n) (hn : n ≤ 4398046511102) : (truncK k s m).2.Dok (n + 1) := by
  unfold truncK
  split
  · split
    · rename_i G hl
      have hG := h.ok.refs _ (look_mem hl)
      split
      · exact h.more (by omega)
      · rename_i hbad
        split
        · refine (h.spent.uses _).setFile ((h.ok.fok G hG).1.trim m.toNat ?_ ?_) ?_
          · omega
          · have := (h.ok.fok G hG).2; omega
          · have := (h.ok.fok G hG).2; simp [Fl.trim]; omega
        · exact h.spent
    · exact h.more (by omega)
  · exact h.more (by omega)
end Go.Proofs.YthcnhjmkcekdaaaGreat

namespace Go.Proofs.YthcnhjmkcekdaaaGreat
open Go.RowKit Go.Maps Plain
set_option linter.unusedVariables false
set_option linter.unusedSimpArgs false
theorem Dk.Dok.did {k : Dk} {n : Nat} {c : DC} (h : k.Dok (n + 1)) (hcnt : k.chg.length ≤ n) (hc : c.can k.L) (hr : ∀ p ∈ DC.on k.L c, k.live p.2) (hl : (DC.on k.L c).length ≤ 65536) (hn : n ≤ 4398046511102) : (k.did c).Dok (n + 1) := by
  refine ⟨⟨hr, h.ok.fok, h.ok.ops, h.ok.fuse⟩, h.dir.snoc (by rw [← h.eq]; exact hc) (by rw [← h.eq]; omega) (by omega), ?_, ?_, hl⟩
  · show DC.on k.L c = dst k.Ld (k.chg ++ [c])
    rw [dst_snoc, ← h.eq]
  · show (k.chg ++ [c]).length ≤ n + 1
    simp; omega
theorem size_list (s : ByteArray) (hs : s.size ≤ maxLen) : s.data.toList.length ≤ maxLen := by rw [Array.length_toList]; exact hs
theorem remove_dok {k : Dk} {n : Nat} {s : ByteArray} (h : k.Dok n) (hs : s.size ≤ maxLen) (hn : n ≤ 4398046511102) : (removeK k s).2.Dok (n + 1) := by
  unfold removeK
  split
  · rename_i h0
    obtain ⟨G, hl, _⟩ := fnd_ok h0
    split
    · refine (h.spent.uses _).did h.cnt ⟨size_list s hs, G, hl⟩ (fun p hp => ?_) ?_ hn
      · exact h.ok.refs p (mem_del hp)
      · show (del k.L s.data.toList).length ≤ 65536
        have := len_del k.L s.data.toList
        have := h.few
        omega
    · exact h.spent
  · exact h.more (by omega)
theorem len_del_lt {L : Dir} {k : Nm} (h : ∃ p ∈ L, p.1 = k) : (del L k).length < L.length := by
  unfold del
  obtain ⟨p, hp, e⟩ := h
  exact List.length_filter_lt_length_iff_exists.mpr ⟨p, hp, by simp [e]⟩
theorem mem_ins_of {x p : Nm × Nat} : ∀ {L : Dir}, p ∈ L → p ∈ ins x L
  | [], h => by simp at h
  | y :: r, h => by
    unfold ins
    split
    · simp at h ⊢
      exact .inr h
    · simp at h ⊢
      rcases h with h | h
      · exact .inl h
      · exact .inr (mem_ins_of h)
theorem rename_dok {k : Dk} {n : Nat} {s t : ByteArray} (h : k.Dok n) (hs : s.size ≤ maxLen) (ht : t.size ≤ maxLen) (hn : n ≤ 4398046511102) : (renameK k s t).2.Dok (n + 1) := by
  unfold renameK
  split
  · exact h.more (by omega)
  · split
    · exact h.more (by omega)
    · rename_i hst
      split
      · rename_i h0
        obtain ⟨G, hl, _⟩ := fnd_ok h0
        have hl' : look k.L s.data.toList = some G := hl
        have hne : s.data.toList ≠ t.data.toList := fun e => hst (WideShapes.bytes_inj e)
        have hon : DC.on k.L (DC.mv s.data.toList t.data.toList) = del (put k.L t.data.toList G) s.data.toList := by rw [DC.on_mv, hl']; rfl
        split
        · refine (h.spent.uses _).did h.cnt ⟨size_list s hs, size_list t ht, G, hl⟩ (fun p hp => ?_) ?_ hn
          · have hp' : p ∈ DC.on k.L (DC.mv s.data.toList t.data.toList) := hp
            rw [hon] at hp'
            rcases mem_put (mem_del hp') with e | e
            · rw [e]; exact h.ok.refs (s.data.toList, G) (look_mem hl)
            · exact h.ok.refs p e
          · show (DC.on k.L (DC.mv s.data.toList t.data.toList)).length ≤ 65536
            rw [hon]
            have h1 : (del (put k.L t.data.toList G) s.data.toList).length < (put k.L t.data.toList G).length := by
              refine len_del_lt ⟨(s.data.toList, G), ?_, rfl⟩
              unfold put
              refine mem_ins_of (List.mem_filter.mpr ⟨look_mem hl, ?_⟩)
              show (!(s.data.toList == t.data.toList)) = true
              rw [beq_eq_false_iff_ne.mpr hne]; rfl
            have h2 := len_put k.L t.data.toList G
            have := h.few
            omega
        · exact h.spent
      · exact h.more (by omega)
theorem Dk.Dok.addFile {k : Dk} {n : Nat} (h : k.Dok n) (G : Nat) : (k.addFile G).Dok n := by
  refine ⟨⟨fun p hp => .inl (h.ok.refs p hp), fun G' hG' => ?_, h.ok.ops, h.ok.fuse⟩, h.dir, h.eq, h.cnt, h.few⟩
  show (upd k.file G ⟨[], [], []⟩ G').Ok ∧ (upd k.file G ⟨[], [], []⟩ G').chg.length ≤ n
  by_cases e : G' = G
  · subst e; rw [upd_same]
    exact ⟨⟨rfl, fun j m hj => by simp at hj, fun j => by simp [fst], by simp⟩, by simp⟩
  · rw [upd_other _ _ _ _ e]; exact h.ok.fok G' (hG'.resolve_right e)
theorem create_dok {k : Dk} {n G : Nat} {s : ByteArray} (h : k.Dok n) (hs : s.size ≤ maxLen) (hn : n ≤ 4398046511102) : (createK k s G).2.Dok (n + 1) := by
  unfold createK
  split
  · exact h.more (by omega)
  · split
    · exact h.more (by omega)
    · split
      · exact h.more (by omega)
      · rename_i hf
        split
        · refine (h.spent.addFile G).did h.cnt (size_list s hs) (fun p hp => ?_) ?_ hn
          · have hp' : p ∈ put k.L s.data.toList G := hp
            rcases mem_put hp' with e | e
            · rw [e]; exact .inr rfl
            · exact .inl (h.ok.refs p e)
          · show (put k.L s.data.toList G).length ≤ 65536
            have := len_put k.L s.data.toList G
            omega
        · exact h.spent
end Go.Proofs.YthcnhjmkcekdaaaGreat

namespace Go.Proofs.YthcnhjmkcekdaaaGreat
open Go.RowKit Go.Maps Plain
set_option linter.unusedVariables false
set_option linter.unusedSimpArgs false
theorem FileAt.vseen {w : World} {G : Nat} {f : Fl} {S : Nat → Prop} (h : FileAt w G f S) : ∃ a n c r, w.cell? ⟨G, 0, none⟩ = some (.slice a n c) ∧ Own w (.slice a n c) f.seen r := by
  obtain ⟨vs, vd, vc, rs, rd, rc, vals, blk, hf, _⟩ := h
  obtain ⟨c0, _⟩ := fcells hf.blkG
  have h1 := hf.seen
  obtain ⟨a, n, c, rfl⟩ := isSliceO h1
  exact ⟨a, n, c, rs, c0, h1⟩
theorem image1Of (w : World) (G : Nat) (f : Fl) (S : Nat → Prop) (h : FileAt w G f S) (hl : f.seen.length ≤ 140737488355328) :
    Calls Tryz.prog 73 #[.pointer (some ⟨G, 0, none⟩)] w fun e w' => ∃ a n c q, e = .returned (.slice a n c) ∧ Own w' (.slice a n c) f.seen q ∧ (∀ g, q = some g → w.heap.size ≤ g) ∧ Below w.heap.size w w' := by
  obtain ⟨a, n, c, r, c0, ho⟩ := h.vseen
  have HC : Hid (Calls Tryz.prog 74 #[.slice a n c] w fun e w' => ∃ v' r', e = .returned v' ∧ Own w' v' f.seen r' ∧ Below w.heap.size w w' ∧ (∀ g, r' = some g → w.heap.size ≤ g)) := cloneOf _ _ w ho.bytes hl
  clear h ho
  go_enter Tryz.func73, Tryz.ntmps73
  go_wp2_with fail
  refine HC.out.mono ?_
  rintro e w1 ⟨v1, r1, rfl, ho1, hb1, hr1⟩
  obtain ⟨a1, n1, c1, rfl⟩ := isSliceO ho1
  have HP : Hid (∃ a n c q, Ending.returned (.slice a1 n1 c1) = .returned (.slice a n c) ∧ Own w1 (.slice a n c) f.seen q ∧ (∀ g, q = some g → w.heap.size ≤ g) ∧ Below w.heap.size w w1) := ⟨_, _, _, r1, rfl, ho1, hr1, hb1⟩
  clear ho1 hb1 hr1
  go_wp2
  go_ret
  exact HP.out
theorem crash1Of (w : World) (G : Nat) (f : Fl) (S : Nat → Prop) (C P : Nat) (v : Value) (ps : List Int) (h : FileAt w G f S) (hf : f.Ok) (hc : ChoAt w C v ps) (hSC : ¬ S C) (hP : w.cell? ⟨P, 0, none⟩ = some (.pointer (some ⟨C, 0, none⟩))) :
    Calls Tryz.prog 70 #[.pointer (some ⟨G, 0, none⟩), .pointer (some ⟨P, 0, none⟩)] w (LvPost ps f C w) := by
  have HC : Hid (Calls Tryz.prog 71 #[.pointer (some ⟨G, 0, none⟩), .pointer (some ⟨C, 0, none⟩)] w (LvPost ps f C w)) := leavesOf w G f S C v ps h hf hc hSC
  clear h hf hc hSC
  go_enter Tryz.func70, Tryz.ntmps70
  go_wp2_with fail
  refine HC.out.mono ?_
  rintro e w1 ⟨a1, n1, c1, r1, rfl, h1⟩
  have HP : Hid (LvPost ps f C w (.returned (.slice a1 n1 c1)) w1) := ⟨a1, n1, c1, r1, rfl, h1⟩
  clear h1
  go_wp2
  go_ret
  exact HP.out
/-- What a program sees. -/
def imK (k : Dk) : List (Nm × List Nat) := imgL k.L (fun (_ : Unit) G => (k.file G).seen) (fun _ _ => ()) () (nms k.L)
theorem enter_image1 (a : Value) (W : World) : (callFunc 73 #[a]).run Tryz.prog W = .ok (.enter 73 #[a]) W := by kernel_rfl
theorem enter_crash1 (a b : Value) (W : World) : (callFunc 70 #[a, b]).run Tryz.prog W = .ok (.enter 70 #[a, b]) W := by kernel_rfl
set_option maxHeartbeats 1000000 in
theorem imageAll (w : World) (d : Nat) (k : Dk) (n : Nat) (S : Nat → Prop) (h : DiskAt w d k S) (hk : k.Dok n) :
    Calls Tryz.prog 30 #[.pointer (some ⟨d, 0, none⟩)] w fun e w' => ∃ a l c, e = .returned (.slice a l c) ∧ ImgAt w' (.slice a l c) (imK k) w.heap.size ∧ Below w.heap.size w w' := by
  obtain ⟨ms, md, vc, rc, Sf, hm, hS1, hS2, hS3⟩ := h
  have hc := hm.at0.1
  have HI : Hid (Calls Tryz.prog 69 #[.map ms, .func (.func 73) #[] #[]] w (ImgPost (fun (_ : Unit) w1 => Below w.heap.size w w1) (imK k) () none w)) := by
    refine imageOf0 w ms k.L 73 none (fun (_ : Unit) w1 => Below w.heap.size w w1) (fun _ G => (k.file G).seen) (fun _ _ => ()) () hm.seen (by have := hk.few; omega) (Below.refl _ _) (by simp) (fun _ w1 w2 h1 h2 => h1.trans h2) enter_image1 ?_
    intro s w1 nm G hb _ hG
    have hl : k.live G := hk.ok.refs _ (look_mem hG)
    refine (image1Of w1 G (k.file G) (Sf G) (((hm.later hb)).files G hl) (by have := (hk.ok.fok G hl).1.seenLen; omega)).mono ?_
    rintro e w2 ⟨a, l, c, q, rfl, ho, hq, hb2⟩
    exact ⟨a, l, c, q, rfl, ho, hq, hb.trans (hb2.mono hb.size), below_grow hb2 _⟩
  clear hm hS1 hS2 hS3 hk
  go_enter Tryz.func30, Tryz.ntmps30
  go_wp2_with fail
  refine HI.out.mono ?_
  rintro e w1 ⟨v, rfl, hi, hb, _⟩
  obtain ⟨a, l, c, rfl⟩ : ∃ a l c, v = .slice a l c := by
    obtain ⟨ts, r, blk, hm⟩ := hi
    obtain ⟨a, cap, e, _⟩ := hm.row.shape
    exact ⟨a, _, cap, e⟩
  have HP : Hid (∃ a' l' c', Ending.returned (.slice a l c) = .returned (.slice a' l' c') ∧ ImgAt w1 (.slice a' l' c') (imK k) w.heap.size ∧ Below w.heap.size w w1) := ⟨_, _, _, rfl, hi, hb⟩
  clear hi hb
  go_wp2
  go_ret
  exact HP.out
end Go.Proofs.YthcnhjmkcekdaaaGreat

namespace Go.Proofs.YthcnhjmkcekdaaaGreat
open Go.RowKit Go.Maps Plain
set_option linter.unusedVariables false
set_option linter.unusedSimpArgs false
theorem PicksAt.cells {w w' : World} {v : Value} {ps : List Int} {B : Nat} (h : PicksAt w v ps) (ho : PicksOff B v) (hb : ∀ b, b < B → w'.heap[b]? = w.heap[b]?) : PicksAt w' v ps := by
  obtain ⟨a, cap, rfl, h1, h2, h3, h4⟩ := h
  refine ⟨a, cap, rfl, h1, h2, h3, fun hne => ?_⟩
  obtain ⟨b, off, rfl, hc⟩ := h4 hne
  refine ⟨b, off, rfl, fun j x hj => ?_⟩
  rw [World.cell?_of_block (w := w) (a := ⟨b, off + j, none⟩) (hb b (ho b off _ _ rfl (List.length_pos_iff.mpr hne)))]
  exact hc j x hj
theorem ChoAt.low {w w' : World} {C B : Nat} {v : Value} {ps : List Int} (h : ChoAt w C v ps) (hb : Below B w w') (hC : C < B) : ChoAt w' C v ps :=
  ⟨(hb.block C hC).trans h.blk, h.row.cells h.off (fun b hb' => hb.block b (by omega)), h.off⟩
theorem ImgAt.base {w : World} {v : Value} {im : List (Nm × List Nat)} {b b' : Nat} (h : ImgAt w v im b) (hb : b' ≤ b) : ImgAt w v im b' := by
  obtain ⟨ts, r, blk, h1, h2, h3, h4, h5, h6, h7⟩ := h
  exact ⟨ts, r, blk, h1, h2, h3, fun g e => Nat.le_trans hb (h4 g e), fun j g e => ⟨Nat.le_trans hb (h5 j g e).1, (h5 j g e).2⟩, h6, h7⟩
/-- The directory that is left. -/
def crL (k : Dk) (ps : List Int) : Dir := dst k.Ld (k.chg.take (upV ps k.chg.length))
/-- What a loss of power leaves. -/
def crK (k : Dk) (ps : List Int) : List (Nm × List Nat) := imgL (crL k ps) (fun ps G => (lf ps (k.file G)).1) (fun ps G => (lf ps (k.file G)).2) ps.tail (nms (crL k ps))
def CrPost (k : Dk) (ps : List Int) (w : World) (e : Ending) (w' : World) : Prop := ∃ a l c, e = .returned (.slice a l c) ∧ ImgAt w' (.slice a l c) (crK k ps) w.heap.size ∧ Below w.heap.size w w'
/-- Only blocks from base on, and the choice's, have turned. -/
theorem imgCrash (w0 w5 : World) (d : Nat) (k : Dk) (n C P : Nat) (Sf : Nat → Nat → Prop) (m5 : Option Nat) (L : Dir) (ps : List Int) (v : Value) (hk : k.Dok n) (hlv : ∀ p ∈ L, k.live p.2) (hfiles : ∀ G, k.live G → FileAt w0 G (k.file G) (Sf G)) (hC : C = w0.heap.size)
    (hb : Below w0.heap.size w0 w5) (hc : ChoAt w5 C v ps) (hP : w5.cell? ⟨P, 0, none⟩ = some (.pointer (some ⟨C, 0, none⟩))) (hPC : P ≠ C) (hm : MapO w5 m5 L) (hmC : m5 ≠ some C) (hfew : L.length ≤ 2199023255000) :
    Calls Tryz.prog 69 #[.map m5, .func (.func 70) #[] #[.pointer (some ⟨P, 0, none⟩)]] w5 fun e w' => ∃ a l c, e = .returned (.slice a l c) ∧ ImgAt w' (.slice a l c) (imgL L (fun ps G => (lf ps (k.file G)).1) (fun ps G => (lf ps (k.file G)).2) ps (nms L)) w0.heap.size ∧ Below w0.heap.size w0 w' := by
  have hCl := hc.lt
  have hPl := cell_lt hP
  simp only at hPl
  have hbs := hb.size
  have low : ∀ w1, w5.grownBy w1 (some C) → Below w0.heap.size w0 w1 := fun w1 hg => hb.trans (grow_below hg hbs (fun g e => by simp at e; omega))
  refine (imageOfOf (σ := List Int) w5 m5 L 70 (.pointer (some ⟨P, 0, none⟩)) (some C) (fun ps w1 => w5.grownBy w1 (some C) ∧ ∃ v, ChoAt w1 C v ps) (fun ps G => (lf ps (k.file G)).1) (fun ps G => (lf ps (k.file G)).2) ps hm hfew ⟨below_grow (Below.refl _ _) _, v, hc⟩
    (fun g e => by simp at e; subst e; exact ⟨hCl, hmC⟩) ?_ (fun a W => enter_crash1 a _ W) ?_).mono ?_
  · rintro s w1 w2 ⟨h1, v1, h2⟩ hb2
    refine ⟨⟨hb2.os.trans h1.os, hb2.tape.trans h1.tape, hb2.output.trans h1.output, Nat.le_trans h1.size hb2.size, fun x hx hne => (hb2.block x hx).trans (h1.block x hx hne)⟩, v1, h2.low hb2 hCl⟩
  · rintro s w1 nm G ⟨h1, v1, h2⟩ _ hG
    have hl : k.live G := hlv _ (look_mem hG)
    have hF := hfiles G hl
    have hb1 := low w1 h1
    refine (crash1Of w1 G (k.file G) (Sf G) C P v1 s (hF.frame hb1.size (fun x hx => hb1.block x (hF.live x hx))) (hk.ok.fok G hl).1 h2 (fun e => by have := hF.live C e; omega) (by rw [World.cell?_of_block (w := w5) (a := ⟨P, 0, none⟩) (h1.block P hPl (by simp; exact hPC))]; exact hP)).mono ?_
    rintro e w2 ⟨a', n', c', r', rfl, q1, q2, q3, q4⟩
    exact ⟨a', n', c', r', rfl, q1, q4, ⟨grow_trans h1 q3 (.inl rfl), q2⟩, q3⟩
  · rintro e w' ⟨v', rfl, hi, ⟨h1, _⟩, _⟩
    obtain ⟨a, l, c, rfl⟩ : ∃ a l c, v' = .slice a l c := by
      obtain ⟨ts, r, blk, hm⟩ := hi
      obtain ⟨a, cap, e, _⟩ := hm.row.shape
      exact ⟨a, _, cap, e⟩
    exact ⟨a, l, c, rfl, hi.base hbs, low w' h1⟩
set_option maxHeartbeats 4000000 in
set_option maxRecDepth 1000000 in
theorem crashOf (w : World) (d : Nat) (k : Dk) (n : Nat) (S : Nat → Prop) (h : DiskAt w d k S) (hk : k.Dok n) (a : Option Addr) (m c : Nat) (ps : List Int) (hp : PicksAt w (.slice a m c) ps) (hpo : PicksOff w.heap.size (.slice a m c))
    (hlv : ∀ p ∈ crL k ps, k.live p.2) (hfew : (crL k ps).length ≤ 2199023255000) :
    Calls Tryz.prog 20 #[.pointer (some ⟨d, 0, none⟩), .slice a m c] w (CrPost k ps w) := by
  have hDS := h
  obtain ⟨ms, md, vc, rc, Sf, hm, hS1, hS2, hS3⟩ := h
  obtain ⟨⟨c0, c1, c2, _, _, _, _, _, _⟩, _⟩ := dcells hm.cells
  obtain ⟨ac, nc, cc, rfl⟩ := isSliceV hm.chg
  have hnc : nc = k.chg.length := by
    obtain ⟨a, cap, e, _⟩ := hm.chg.shape
    injection e with _ e2 _
    rw [e2, List.length_map]
  obtain ⟨q1, q2⟩ : nc ≤ cc ∧ cc ≤ 2 ^ 63 - 1 := by
    obtain ⟨a, cap, e, h1, h2⟩ := hm.chg.shape
    injection e with _ e2 e3
    unfold maxLen at h1
    omega
  have hcnt := hk.dir.cnt
  subst hnc
  obtain ⟨W, hW⟩ : ∃ W, (w.alloc (.cells #[.slice a m c] 110)).alloc (.cells #[.pointer (some ⟨w.heap.size, 0, none⟩)] 108) = W := ⟨_, rfl⟩
  have hBW : Below w.heap.size w W := by rw [← hW]; exact ((Below.refl _ _).alloc (Nat.le_refl _) _).alloc (by simp) _
  have hWs : W.heap.size = w.heap.size + 2 := by rw [← hW]; simp
  have hCho : ChoAt W w.heap.size (.slice a m c) ps := by
    refine ⟨?_, hp.cells hpo (fun b hb => hBW.block b hb), hpo⟩
    rw [← hW, Below.heap_alloc _ _ _ (by simp)]
    unfold World.alloc
    simp
  have cP : W.cell? ⟨w.heap.size + 1, 0, none⟩ = some (.pointer (some ⟨w.heap.size, 0, none⟩)) := by
    rw [← hW, World.cell?_alloc_at _ _ _ _ (by simp)]
    simp
  have k2 : W.cell? ⟨d, 2, none⟩ = some (.slice ac k.chg.length cc) := by rw [hBW.cell (cell_lt c2)]; exact c2
  have hbD : Below w.heap.size w W.drew := hBW.drew
  have HUP : Hid (Calls Tryz.prog 67 #[.pointer (some ⟨w.heap.size, 0, none⟩), .int .i64 (k.chg.length : Int)] W.drew fun e w' => e = .returned (.int .i64 (upV ps k.chg.length : Int)) ∧ (∃ v', ChoAt w' w.heap.size v' ps.tail) ∧ W.drew.grownBy w' (some w.heap.size)) := upToOf W.drew _ _ ps k.chg.length (hCho.later ((Below.refl _ _).drew)) (by omega)
  have HPA : Hid (∀ w3, W.drew.grownBy w3 (some w.heap.size) → Calls Tryz.prog 66 #[.pointer (some ⟨d, 0, none⟩), .int .i64 (upV ps k.chg.length : Int), .func (.func 68) #[] #[]] w3 (PastDPost (crL k ps) w3)) := fun w3 hg => by
    have hb3 : Below w.heap.size w w3 := hbD.trans (grow_below hg (by simp [hWs]) (fun g e => by simp at e; omega))
    exact pastDOf w3 d k S (hDS.frame hb3.size (fun x hx => hb3.block x (hS3 x hx))) hk.dir _ (upV_le ps _)
  have HIM : Hid (∀ w3 w5 m5 v3, W.drew.grownBy w3 (some w.heap.size) → ChoAt w3 w.heap.size v3 ps.tail → Below w3.heap.size w3 w5 → MapO w5 m5 (crL k ps) → (∀ g, m5 = some g → w3.heap.size ≤ g) → Calls Tryz.prog 69 #[.map m5, .func (.func 70) #[] #[.pointer (some ⟨w.heap.size + 1, 0, none⟩)]] w5 (CrPost k ps w)) := fun w3 w5 m5 v3 hg hc3 hb5 hm5 hn5 => by
    have hb3 : Below w.heap.size w w3 := hbD.trans (grow_below hg (by simp [hWs]) (fun g e => by simp at e; omega))
    have hs3 := hg.size
    have hs3' : w.heap.size + 2 ≤ w3.heap.size := by
      have : W.drew.heap.size = w.heap.size + 2 := hWs
      omega
    refine imgCrash w w5 d k n w.heap.size (w.heap.size + 1) Sf m5 (crL k ps) ps.tail v3 hk hlv hm.files rfl (hb3.trans (hb5.mono hb3.size)) (hc3.later hb5) ?_ (by omega) hm5 (fun e => by have := hn5 _ e; omega) hfew
    have e3 : w3.cell? ⟨w.heap.size + 1, 0, none⟩ = some (.pointer (some ⟨w.heap.size, 0, none⟩)) := hg.cell (show W.drew.cell? ⟨w.heap.size + 1, 0, none⟩ = _ from cP) (by simp)
    rw [hb5.cell (cell_lt e3)]
    exact e3
  clear hm hS1 hS2 hS3 hk hDS hp hpo hlv hfew hBW hCho hbD
  go_enter Tryz.func20, Tryz.ntmps20
  go_wp2
  try rw [hW]
  clear hW
  go_region_with (first
    | (go_at_call 67
       refine HUP.out.mono ?_
       rintro e w3 ⟨rfl, ⟨v3, hv3⟩, hg3⟩
       have H3 : Hid (W.drew.grownBy w3 (some w.heap.size) ∧ ChoAt w3 w.heap.size v3 ps.tail) := ⟨hg3, hv3⟩
       clear hv3 hg3)
    | (go_at_call 66
       refine (HPA.out _ H3.out.1).mono ?_
       rintro e w5 ⟨m5, rfl, ho5, hb5, hn5⟩
       have HI5 : Hid (Calls Tryz.prog 69 #[.map m5, .func (.func 70) #[] #[.pointer (some ⟨w.heap.size + 1, 0, none⟩)]] w5 (CrPost k ps w)) := HIM.out _ w5 m5 v3 H3.out.1 H3.out.2 hb5 ho5 hn5
       clear ho5 hb5 hn5))
  all_goals
    go_wp2_with fail
    refine HI5.out.mono ?_
    rintro e w6 ⟨a6, l6, c6, rfl, h6⟩
    have HP : Hid (CrPost k ps w (.returned (.slice a6 l6 c6)) w6) := ⟨a6, l6, c6, rfl, h6⟩
    clear h6
    go_wp2
    go_ret
    exact HP.out
end Go.Proofs.YthcnhjmkcekdaaaGreat

namespace Go.Proofs.YthcnhjmkcekdaaaGreat
open Go.RowKit Go.Maps Plain
set_option linter.unusedVariables false
set_option linter.unusedSimpArgs false
theorem St.fown {S : Nat → Prop} {w w1 : World} {d G : Nat} {k : Dk} (h : St S w d k w1) (hG : k.live G) : ∃ vs rs, w1.cell? ⟨G, 0, none⟩ = some vs ∧ Own w1 vs (k.file G).seen rs := by
  obtain ⟨ms, md, vc, rc, Sf, hm⟩ := h.at
  obtain ⟨vs, vd, vc, rs, rd, rc, vals, blk, hf, _⟩ := hm.files G hG
  obtain ⟨c0, _⟩ := fcells hf.blkG
  exact ⟨vs, rs, c0, hf.seen⟩
/-- A part of a row of bytes. -/
theorem own_part {w : World} {g A M N c : Nat} {l : List Nat} {r : Option Nat} (h : Own w (.slice (some ⟨g, 0, none⟩) N c) l r) (hA : A ≤ N) (m : Nat) (hm : m = min M (N - A)) : BytesAt w (.slice (some ⟨g, A, none⟩) m (c - A)) ((l.drop A).take M) := by
  have hl := own_len h
  obtain ⟨a', cap', e, h1, h2, h3, h4⟩ := h.bytes
  simp only [Value.slice.injEq] at e
  obtain ⟨rfl, e2, rfl⟩ := e
  have hlen : ((l.drop A).take M).length = m := by rw [List.length_take, List.length_drop]; omega
  refine ⟨_, c - A, by rw [hlen], by rw [hlen]; omega, by omega, fun x hx => h3 x (List.mem_of_mem_drop (List.mem_of_mem_take hx)), fun hne => ⟨g, A, rfl, fun j hj => ?_⟩⟩
  obtain ⟨b', off', e, h5⟩ := h4 (by rintro rfl; simp at hne)
  simp only [Option.some.injEq, Addr.mk.injEq] at e
  obtain ⟨rfl, rfl, _⟩ := e
  rw [hlen] at hj
  have h6 := h5 (A + j) (by omega)
  rw [Nat.zero_add] at h6
  rw [h6]
  simp only [List.getD_eq_getElem?_getD]
  rw [List.getElem?_take_of_lt (by omega), List.getElem?_drop]
theorem own_end {w : World} {g A M N c : Nat} {l : List Nat} {r : Option Nat} (h : Own w (.slice (some ⟨g, 0, none⟩) N c) l r) (hA : c ≤ A) : BytesAt w (.slice (some ⟨g, 0, none⟩) 0 0) ((l.drop A).take M) := by
  have hl := own_len h
  obtain ⟨q1, _⟩ := own_cap h
  have e : (l.drop A).take M = [] := by rw [List.drop_eq_nil_of_le (by omega)]; simp
  rw [e]
  exact ⟨_, 0, rfl, by simp, by simp, by simp, by simp⟩
/-- What Read answers. -/
def rdB (k : Dk) (s : ByteArray) (A M : Nat) : List Nat := (look k.L s.data.toList).elim [] fun G => ((k.file G).seen.drop A).take M
def RdPost (S : Nat → Prop) (d : Nat) (k : Dk) (w : World) (l : List Nat) (w1 : World) (e : Ending) (w' : World) : Prop := ∃ a n c r, e = .returned (.tuple #[.slice a n c, .int .i64 0]) ∧ Own w' (.slice a n c) l r ∧ (∀ g, r = some g → w1.heap.size ≤ g) ∧ Below w1.heap.size w1 w' ∧ St S w d k w'
end Go.Proofs.YthcnhjmkcekdaaaGreat

namespace Go.Proofs.YthcnhjmkcekdaaaGreat
open Go.RowKit Go.Maps Plain
set_option linter.unusedVariables false
set_option linter.unusedSimpArgs false
set_option maxRecDepth 1000000
theorem deadOf {S : Nat → Prop} {w w1 : World} {d : Nat} {k : Dk} (h : St S w d k w1) : Calls Tryz.prog 26 #[.pointer (some ⟨d, 0, none⟩)] w1 fun e w' => e = .returned (.bool k.dead) ∧ w' = w1 := by
  obtain ⟨ms, md, vc, rc, Sf, hm⟩ := h.at
  obtain ⟨⟨_, _, _, _, _, _, _, _, c8⟩, _⟩ := dcells hm.cells
  clear hm h
  generalize k.dead = b at *
  go_enter Tryz.func26, Tryz.ntmps26
  go_wp2
  go_ret
  exact ⟨rfl, rfl⟩
theorem opsOf {S : Nat → Prop} {w w1 : World} {d : Nat} {k : Dk} (h : St S w d k w1) : Calls Tryz.prog 28 #[.pointer (some ⟨d, 0, none⟩)] w1 fun e w' => e = .returned (.int .i64 k.ops) ∧ w' = w1 := by
  obtain ⟨ms, md, vc, rc, Sf, hm⟩ := h.at
  obtain ⟨⟨_, _, _, _, _, c5, _, _, _⟩, _⟩ := dcells hm.cells
  clear hm h
  go_enter Tryz.func28, Tryz.ntmps28
  go_wp2
  go_ret
  exact ⟨rfl, rfl⟩
theorem usedOf {S : Nat → Prop} {w w1 : World} {d : Nat} {k : Dk} (h : St S w d k w1) : Calls Tryz.prog 23 #[.pointer (some ⟨d, 0, none⟩)] w1 fun e w' => e = .returned (.int .i64 k.used) ∧ w' = w1 := by
  obtain ⟨c3, _⟩ := h.cells
  clear h
  go_enter Tryz.func23, Tryz.ntmps23
  go_wp2
  go_ret
  exact ⟨rfl, rfl⟩
theorem quotaOf {S : Nat → Prop} {w w1 : World} {d : Nat} {k : Dk} (h : St S w d k w1) : Calls Tryz.prog 25 #[.pointer (some ⟨d, 0, none⟩)] w1 fun e w' => e = .returned (.int .i64 k.quota) ∧ w' = w1 := by
  obtain ⟨_, c4, _⟩ := h.cells
  clear h
  go_enter Tryz.func25, Tryz.ntmps25
  go_wp2
  go_ret
  exact ⟨rfl, rfl⟩
end Go.Proofs.YthcnhjmkcekdaaaGreat

namespace Go.Proofs.YthcnhjmkcekdaaaGreat
open Go.RowKit Go.Maps Plain
set_option linter.unusedVariables false
set_option linter.unusedSimpArgs false
set_option maxRecDepth 1000000
def Dk.quotas (k : Dk) (q : Int) : Dk := { k with quota := q }
theorem quotaSt {S : Nat → Prop} {w w1 : World} {d : Nat} {k : Dk} (h : St S w d k w1) (u : Int) : St S w d (k.quotas u) (w1.setCell ⟨d, 4, none⟩ (.int .i64 u)) := by
  obtain ⟨⟨ms, md, vc, rc, Sf, hm, hS1, hS2, hS3⟩, hc⟩ := h
  have hg := grow_set w1 d 4 (.int .i64 u)
  have hsz : (w1.setCell ⟨d, 4, none⟩ (.int .i64 u)).heap.size = w1.heap.size := by simp
  have keep : ∀ x, x < w1.heap.size → x ≠ d → (w1.setCell ⟨d, 4, none⟩ (.int .i64 u)).heap[x]? = w1.heap[x]? := fun x hx h1 => hg.block x hx (by simpa using h1)
  have hE : ∀ x, Ext S w w1 x → Ext S w (w1.setCell ⟨d, 4, none⟩ (.int .i64 u)) x := fun x hx => by
    rcases hx with hx | hx
    · exact .inl hx
    · exact .inr ⟨hx.1, by omega⟩
  have hdS : S d ∨ w.heap.size ≤ d := by
    rcases hS1 d (.inl rfl) with h | h
    · exact .inl h
    · exact .inr h.1
  refine ⟨⟨ms, md, vc, rc, Sf, ⟨dset hm.cells 4 _, hm.seen.of_block (fun b e => keep b (hm.seen.rlt b e) (hm.sepS b e).1), hm.dur.of_block (fun b e => keep b (hm.dur.rlt b e) (hm.sepD b e).1), hm.chg.of_block hg.size (fun b e => keep b (hm.chg.rlt b e) (hm.sepC b e)), fun G hG => (hm.files G hG).frame hg.size (fun x hx => keep x ((hm.files G hG).live x hx) (hm.sepF G hG x hx).1), hm.sepS, hm.sepD, hm.sepC, hm.sepF, hm.sepFF⟩, fun x hx => hE x (hS1 x hx), fun G x hG hx => hE x (hS2 G x hG hx), fun x hx => ?_⟩, hc.grown hg (fun g e => by simp at e; subst e; exact hdS)⟩
  rcases hx with hx | hx
  · have := hS3 x (.inl hx); omega
  · exact hx.2
theorem setqOf {S : Nat → Prop} {w w1 : World} {d : Nat} {k : Dk} (h : St S w d k w1) (q : Int) (hq1 : -9223372036854775808 ≤ q) (hq2 : q ≤ 9223372036854775807) : Calls Tryz.prog 16 #[.pointer (some ⟨d, 0, none⟩), .int .i64 q] w1 fun e w' => (qB q = true ∧ e = .returned (.int .i64 0) ∧ St S w d (k.quotas q) w') ∨ (qB q = false ∧ e = .returned (.int .i64 3) ∧ St S w d k w') := by
  have HS : Hid (St S w d k w1) := h
  have HQ : Hid (Calls Tryz.prog 32 #[.int .i64 q] w1 fun e w' => e = .returned (.bool (qB q)) ∧ w' = w1) := isQuotaOf q hq1 hq2 w1
  have HW : Hid (St S w d (k.quotas q) (w1.setCell ⟨d, 4, none⟩ (.int .i64 q))) := quotaSt h q
  obtain ⟨ms, md, vc, rc, Sf, hm⟩ := h.at
  obtain ⟨⟨_, _, _, _, c4, _, _, _, _⟩, ⟨_, _, _, _, z4, _, _, _, _⟩⟩ := dcells hm.cells
  clear hm h
  cases hb : qB q with
  | false =>
    rw [hb] at HQ
    clear hb
    go_enter Tryz.func16, Tryz.ntmps16
    go_wp2_with fail
    refine HQ.out.mono ?_
    rintro e w2 ⟨rfl, rfl⟩
    go_wp2
    go_ret
    exact .inr ⟨by trivial, rfl, HS.out⟩
  | true =>
    rw [hb] at HQ
    clear hb
    go_enter Tryz.func16, Tryz.ntmps16
    go_wp2_with fail
    refine HQ.out.mono ?_
    rintro e w2 ⟨rfl, rfl⟩
    go_wp2
    go_ret
    exact .inl ⟨by trivial, rfl, HW.out⟩
end Go.Proofs.YthcnhjmkcekdaaaGreat
