import Derived.Test.YthcnhjmkcekdaaaGreatQs19
import Derived.Test.YthcnhjmkcekdaaaGreatQs24
import Derived.Test.YthcnhjmkcekdaaaGreatQs37
namespace Go.Proofs.YthcnhjmkcekdaaaGreat
open Go.RowKit Go.Maps Plain
set_option linter.unusedVariables false
set_option linter.unusedSimpArgs false
theorem fnd_zero {k : Dk} {s : ByteArray} (h : (fnd k.dead k.L s).2 = 0) : ∃ G, look k.L s.data.toList = some G := by
  obtain ⟨g, h1, -⟩ := fnd_ok h
  exact ⟨g, h1⟩
/-- Append. -/
theorem append_zero {k k' : Dk} {s : ByteArray} {b : List Nat} (h : appendK k s b = (0, k')) : ∃ G, look k.L s.data.toList = some G ∧ k' = (k.spent.setFile G ((k.file G).add b)).uses (k.used + b.length) := by
  unfold appendK at h
  split at h
  · rename_i h1
    obtain ⟨G, hG⟩ := fnd_zero h1
    rw [hG] at h
    split at h
    · exact absurd (congrArg Prod.fst h) (by simp)
    · simp only at h
      split at h
      · exact ⟨G, hG, (congrArg Prod.snd h).symm⟩
      · exact absurd (congrArg Prod.fst h) (by simp)
  · rename_i h1
    exact absurd (congrArg Prod.fst h) h1
theorem trunc_zero {k k' : Dk} {s : ByteArray} {n : Int} (h : truncK k s n = (0, k')) : ∃ G, look k.L s.data.toList = some G ∧ 0 ≤ n ∧ n ≤ (k.file G).seen.length ∧ k' = (k.spent.uses (k.used - ((k.file G).seen.length - n))).setFile G ((k.file G).trim n.toNat) := by
  unfold truncK at h
  split at h
  · rename_i h1
    obtain ⟨G, hG⟩ := fnd_zero h1
    rw [hG] at h
    simp only at h
    split at h
    · exact absurd (congrArg Prod.fst h) (by simp)
    · split at h
      · exact ⟨G, hG, by omega, by omega, (congrArg Prod.snd h).symm⟩
      · exact absurd (congrArg Prod.fst h) (by simp)
  · rename_i h1
    exact absurd (congrArg Prod.fst h) h1
theorem sync_zero {k k' : Dk} {s : ByteArray} (h : syncK k s = (0, k')) : ∃ G, look k.L s.data.toList = some G ∧ k' = k.spent.setFile G ⟨(k.file G).seen, (k.file G).seen, []⟩ := by
  unfold syncK at h
  split at h
  · rename_i h1
    obtain ⟨G, hG⟩ := fnd_zero h1
    rw [hG] at h
    simp only at h
    split at h
    · exact ⟨G, hG, (congrArg Prod.snd h).symm⟩
    · exact absurd (congrArg Prod.fst h) (by simp)
  · rename_i h1
    exact absurd (congrArg Prod.fst h) h1
theorem syncDir_zero {k k' : Dk} (h : syncDirK k = (0, k')) : k' = k.spent.settled := by
  unfold syncDirK at h
  split at h
  · exact absurd (congrArg Prod.fst h) (by simp)
  · split at h
    · exact (congrArg Prod.snd h).symm
    · exact absurd (congrArg Prod.fst h) (by simp)
theorem remove_zero {k k' : Dk} {s : ByteArray} (h : removeK k s = (0, k')) : ∃ G, look k.L s.data.toList = some G ∧ k' = (k.spent.uses (k.used - sizeK k s)).did (DC.rm s.data.toList) := by
  unfold removeK at h
  split at h
  · rename_i h1
    obtain ⟨G, hG⟩ := fnd_zero h1
    split at h
    · exact ⟨G, hG, (congrArg Prod.snd h).symm⟩
    · exact absurd (congrArg Prod.fst h) (by simp)
  · rename_i h1
    exact absurd (congrArg Prod.fst h) h1
theorem create_zero {k k' : Dk} {s : ByteArray} {G : Nat} (h : createK k s G = (0, k')) : look k.L s.data.toList = none ∧ nmL s.data.toList = true ∧ k' = (k.spent.addFile G).did (DC.mk s.data.toList G) := by
  unfold createK at h
  split at h
  · rename_i h1
    exact absurd (congrArg Prod.fst h) h1
  · rename_i h1
    split at h
    · exact absurd (congrArg Prod.fst h) (by simp)
    · rename_i h2
      split at h
      · exact absurd (congrArg Prod.fst h) (by simp)
      · split at h
        · refine ⟨by simpa using h2, ?_, (congrArg Prod.snd h).symm⟩
          have h3 : rdy k.dead [s] = 0 := by simpa using h1
          unfold rdy at h3
          split at h3
          · simp at h3
          · split at h3
            · rename_i h4; simpa [nmsB] using h4
            · simp at h3
        · exact absurd (congrArg Prod.fst h) (by simp)
theorem rename_zero {k k' : Dk} {s t : ByteArray} (h : renameK k s t = (0, k')) : ∃ G, look k.L s.data.toList = some G ∧ s ≠ t ∧ nmL t.data.toList = true ∧ k' = (k.spent.uses (k.used - sizeK k t)).did (DC.mv s.data.toList t.data.toList) := by
  unfold renameK at h
  split at h
  · rename_i h1
    exact absurd (congrArg Prod.fst h) h1
  · rename_i h1
    split at h
    · exact absurd (congrArg Prod.fst h) (by simp)
    · rename_i h2
      split at h
      · rename_i h5
        obtain ⟨G, hG⟩ := fnd_zero h5
        split at h
        · refine ⟨G, hG, h2, ?_, (congrArg Prod.snd h).symm⟩
          have h3 : rdy k.dead [s, t] = 0 := by simpa using h1
          unfold rdy at h3
          split at h3
          · simp at h3
          · split at h3
            · rename_i h4
              simp [nmsB] at h4
              exact h4.2
            · simp at h3
        · exact absurd (congrArg Prod.fst h) (by simp)
      · rename_i h5
        exact absurd (congrArg Prod.fst h) h5
end Go.Proofs.YthcnhjmkcekdaaaGreat

namespace Go.Proofs.YthcnhjmkcekdaaaGreat
open Go.RowKit Go.Maps Plain
set_option linter.unusedVariables false
set_option linter.unusedSimpArgs false
theorem PsR.lead {k : Dk} {ν : Nat → Nat} {p : Ps} {n : Nat} (h : PsR k ν p) (hd : k.Dok n) (s : Nm) : leadL p.last s = (look k.L s).elim (-1) fun G => (ν G : Int) := by
  obtain ⟨s1, s2, -⟩ := h.seen hd
  exact lead_of s1 s2 s
/-- What a name leads to. -/
theorem PsR.leads {k : Dk} {ν : Nat → Nat} {p : Ps} {n G : Nat} {s : Nm} (h : PsR k ν p) (hd : k.Dok n) (hl : look k.L s = some G) : leadL p.last s = (ν G : Int) ∧ ν G < p.files.length ∧ p.files.getD (ν G) [] = sts (k.file G) ∧ p.grown.getD (ν G) [] = grs (k.file G) ∧ k.live G ∧ (k.file G).Ok := by
  have hG : k.live G := hd.ok.refs _ (look_mem hl)
  obtain ⟨a1, a2, a3⟩ := h.file G hG
  exact ⟨by rw [h.lead hd, hl]; rfl, a1, a2, a3, hG, (hd.ok.fok G hG).1⟩
theorem PsR.append {k k' : Dk} {ν : Nat → Nat} {p : Ps} {n : Nat} {s : ByteArray} {b : List Nat} (h : PsR k ν p) (hd : k.Dok n) (e : appendK k s b = (0, k')) :
    ∃ f : Nat, leadL p.last s.data.toList = (f : Int) ∧ f < p.files.length ∧ PsR k' ν ⟨p.files.set f (p.files.getD f [] ++ [(p.files.getD f []).getD ((p.files.getD f []).length - 1) [] ++ b]), p.grown.set f (p.grown.getD f [] ++ [(b.length : Int)]), p.dirs⟩ := by
  obtain ⟨G, hl, rfl⟩ := append_zero e
  obtain ⟨a0, a1, a2, a3, a4, a5⟩ := h.leads hd hl
  refine ⟨ν G, a0, a1, ?_⟩
  rw [a2, a3, sts_last a5, ← sts_add a5, ← grs_add]
  exact h.setF a4 rfl rfl rfl rfl
theorem PsR.trunc {k k' : Dk} {ν : Nat → Nat} {p : Ps} {n : Nat} {s : ByteArray} {m : Int} (h : PsR k ν p) (hd : k.Dok n) (e : truncK k s m = (0, k')) :
    ∃ f : Nat, leadL p.last s.data.toList = (f : Int) ∧ f < p.files.length ∧ 0 ≤ m ∧ m.toNat ≤ ((p.files.getD f []).getD ((p.files.getD f []).length - 1) []).length ∧ PsR k' ν ⟨p.files.set f (p.files.getD f [] ++ [((p.files.getD f []).getD ((p.files.getD f []).length - 1) []).take m.toNat]), p.grown.set f (p.grown.getD f [] ++ [(-1 : Int)]), p.dirs⟩ := by
  obtain ⟨G, hl, h0, h1, rfl⟩ := trunc_zero e
  obtain ⟨a0, a1, a2, a3, a4, a5⟩ := h.leads hd hl
  refine ⟨ν G, a0, a1, h0, ?_, ?_⟩
  · rw [a2, sts_last a5]; omega
  · rw [a2, a3, sts_last a5, ← sts_trim a5, ← grs_trim _ m.toNat]
    exact h.setF a4 rfl rfl rfl rfl
theorem PsR.sync {k k' : Dk} {ν : Nat → Nat} {p : Ps} {n : Nat} {s : ByteArray} (h : PsR k ν p) (hd : k.Dok n) (e : syncK k s = (0, k')) :
    ∃ f : Nat, leadL p.last s.data.toList = (f : Int) ∧ f < p.files.length ∧ PsR k' ν ⟨p.files.set f [(p.files.getD f []).getD ((p.files.getD f []).length - 1) []], p.grown.set f [-1], p.dirs⟩ := by
  obtain ⟨G, hl, rfl⟩ := sync_zero e
  obtain ⟨a0, a1, a2, a3, a4, a5⟩ := h.leads hd hl
  refine ⟨ν G, a0, a1, ?_⟩
  rw [a2, sts_last a5, ← sts_synced, ← grs_synced (k.file G).seen]
  exact h.setF a4 rfl rfl rfl rfl
theorem PsR.syncDir {k k' : Dk} {ν : Nat → Nat} {p : Ps} {n : Nat} (h : PsR k ν p) (hd : k.Dok n) (e : syncDirK k = (0, k')) : PsR k' ν ⟨p.files, p.grown, [p.last]⟩ := by
  have := syncDir_zero e
  subst this
  exact h.settled hd rfl rfl rfl rfl
theorem PsR.remove {k k' : Dk} {ν : Nat → Nat} {p : Ps} {n : Nat} {s : ByteArray} (h : PsR k ν p) (hd : k.Dok n) (e : removeK k s = (0, k')) :
    ∃ f : Nat, leadL p.last s.data.toList = (f : Int) ∧ f < p.files.length ∧ PsR k' ν ⟨p.files, p.grown, p.dirs ++ [leftL p.last s.data.toList]⟩ := by
  obtain ⟨G, hl, rfl⟩ := remove_zero e
  obtain ⟨a0, a1, a2, a3, a4, a5⟩ := h.leads hd hl
  obtain ⟨s1, s2, -⟩ := h.seen hd
  refine ⟨ν G, a0, a1, h.did hd rfl rfl rfl rfl ?_⟩
  rw [DC.on_rm, ← left_map]
  exact left_perm s1 _
theorem del_noneP {L : Dir} {s : Nm} (h : look L s = none) : del L s = L := by
  unfold del
  rw [List.filter_eq_self]
  intro q hq
  unfold look at h
  rw [Option.map_eq_none_iff, List.find?_eq_none] at h
  simpa using h q hq
theorem left_noneP {l : List (Nm × Nat)} {s : Nm} (h : ∀ x ∈ l, x.1 ≠ s) : leftL l s = l := by
  unfold leftL
  rw [List.filter_eq_self]
  intro x hx
  simpa using h x hx
theorem del_commP (L : Dir) (a b : Nm) : del (del L a) b = del (del L b) a := by
  unfold del
  rw [List.filter_filter, List.filter_filter]
  congr 1
  funext x
  exact Bool.and_comm _ _
theorem PsR.rename {k k' : Dk} {ν : Nat → Nat} {p : Ps} {n : Nat} {s t : ByteArray} (h : PsR k ν p) (hd : k.Dok n) (e : renameK k s t = (0, k')) :
    ∃ f : Nat, leadL p.last s.data.toList = (f : Int) ∧ f < p.files.length ∧ PsR k' ν ⟨p.files, p.grown, p.dirs ++ [leftL (leftL p.last s.data.toList) t.data.toList ++ [(t.data.toList, f)]]⟩ := by
  obtain ⟨G, hl, hne, hnm, rfl⟩ := rename_zero e
  obtain ⟨a0, a1, a2, a3, a4, a5⟩ := h.leads hd hl
  obtain ⟨s1, s2, -⟩ := h.seen hd
  have hst : t.data.toList ≠ s.data.toList := fun e2 => hne (by
    cases s; cases t
    simp only [Array.toList_inj] at e2
    rw [e2])
  refine ⟨ν G, a0, a1, h.did hd rfl rfl rfl rfl ?_⟩
  rw [DC.on_mv, hl]
  show List.Perm _ ((del (put k.L t.data.toList G) s.data.toList).map (nuOf ν))
  have h1 : (del (put k.L t.data.toList G) s.data.toList).Perm ((t.data.toList, G) :: del (del k.L s.data.toList) t.data.toList) := by
    have h2 := (put_permP k.L t.data.toList G).filter (fun q => !(q.1 == s.data.toList))
    rw [List.filter_cons_of_pos (by simpa using hst)] at h2
    rw [del_commP]
    exact h2
  refine List.Perm.trans ?_ (h1.map (nuOf ν)).symm
  rw [List.map_cons, ← left_map, ← left_map]
  exact (List.perm_append_singleton _ _).trans (List.Perm.cons _ (left_perm (left_perm s1 _) _))
theorem PsR.create {k k' : Dk} {ν : Nat → Nat} {p : Ps} {n G : Nat} {s : ByteArray} (h : PsR k ν p) (hd : k.Dok n) (hp : k.Past) (hG : ¬ k.live G) (hnm : ∀ q ∈ k.L, q.1 ≠ []) (e : createK k s G = (0, k')) :
    leadL p.last s.data.toList = -1 ∧ PsR k' (upd ν G p.files.length) ⟨p.files ++ [[[]]], p.grown ++ [[-1]], p.dirs ++ [leftL p.last [] ++ [(s.data.toList, p.files.length)]]⟩ := by
  obtain ⟨hl, hn, rfl⟩ := create_zero e
  obtain ⟨s1, s2, s3⟩ := h.seen hd
  refine ⟨by rw [h.lead hd, hl]; rfl, ?_⟩
  have hf : PsR (k.addFile G) (upd ν G p.files.length) ⟨p.files ++ [[[]]], p.grown ++ [[-1]], p.dirs⟩ := h.fresh hp hG rfl rfl rfl rfl
  have hd1 : (k.addFile G).Dok n := by
    refine ⟨⟨fun q hq => .inl (hd.ok.refs q hq), fun H hH => ?_, hd.ok.ops, hd.ok.fuse⟩, hd.dir, hd.eq, hd.cnt, hd.few⟩
    show ((upd k.file G ⟨[], [], []⟩) H).Ok ∧ ((upd k.file G ⟨[], [], []⟩) H).chg.length ≤ n
    by_cases e2 : H = G
    · subst e2
      rw [upd_same]
      exact ⟨⟨rfl, fun k n e => by simp at e, fun k => by simp [fst], by simp⟩, by simp⟩
    · rw [upd_other _ _ _ _ e2]
      rcases hH with hH | hH
      · exact hd.ok.fok H hH
      · exact absurd hH e2
  refine hf.did hd1 rfl rfl rfl rfl ?_
  obtain ⟨q1, q2, -⟩ := hf.seen hd1
  rw [DC.on_mk]
  have hl' : look (k.addFile G).L s.data.toList = none := hl
  have h1 : (put (k.addFile G).L s.data.toList G).Perm ((s.data.toList, G) :: (k.addFile G).L) := by
    have := put_permP (k.addFile G).L s.data.toList G
    rw [del_noneP hl'] at this
    exact this
  refine List.Perm.trans ?_ (h1.map _).symm
  rw [List.map_cons]
  have hx : nuOf (upd ν G p.files.length) (s.data.toList, G) = (s.data.toList, p.files.length) := by unfold nuOf; rw [upd_same]
  rw [hx, left_noneP (fun x hx2 => by
    obtain ⟨q, hq, e3⟩ := List.mem_map.mp (s1.mem_iff.mp hx2)
    rw [← e3]
    exact hnm q hq)]
  exact (List.perm_append_singleton _ _).trans (List.Perm.cons _ q1)
end Go.Proofs.YthcnhjmkcekdaaaGreat

namespace Go.Proofs.YthcnhjmkcekdaaaGreat
open Go.RowKit Go.Maps Plain
set_option linter.unusedVariables false
set_option linter.unusedSimpArgs false
structure PsS (p : Ps) (n : Nat) : Prop where
  fl : p.files.length ≤ n
  len : p.grown.length = p.files.length
  gl : ∀ f, f < p.files.length → (p.grown.getD f []).length = (p.files.getD f []).length ∧ 1 ≤ (p.files.getD f []).length ∧ (p.files.getD f []).length ≤ n + 1
theorem PsS.ok {k : Dk} {ν : Nat → Nat} {p : Ps} {n : Nat} (h : PsS p n) (hr : PsR k ν p) (hd : k.Dok n) (hp : k.Past) (hn : n ≤ 2000000000000) : p.Ok := by
  have hfl := h.fl
  have hdl : p.dirs.length ≤ n + 1 := by have := hr.dlen; have := hd.cnt; omega
  refine ⟨by omega, by omega, fun j hj => ?_, fun j hj x hx => ?_, h.len, fun f hf => ⟨(h.gl f hf).1, by have := (h.gl f hf).2.2; omega⟩, fun f hf => (h.gl f hf).2.1⟩
  · have hj' : j ≤ k.chg.length := by have := hr.dlen; omega
    rw [(hr.dir j hj').length_eq, List.length_map]
    have h1 := dst_len (k.chg.take j) k.Ld
    have h2 := hp.few
    have h3 : (k.chg.take j).length ≤ j := by simp; omega
    omega
  · have hj' : j ≤ k.chg.length := by have := hr.dlen; omega
    obtain ⟨q, hq, rfl⟩ := List.mem_map.mp ((hr.dir j hj').mem_iff.mp hx)
    have hlv : k.live q.2 := dst_live (lv := k.live) (k.chg.take j) k.Ld hp.ld (fun nm g hg => hp.made nm g (List.mem_of_mem_take hg)) q hq
    exact (hr.file q.2 hlv).1
theorem PsS.more {p : Ps} {n : Nat} {ds : List (List (Nm × Nat))} (h : PsS p n) : PsS ⟨p.files, p.grown, ds⟩ (n + 1) := ⟨by have := h.fl; show p.files.length ≤ _; omega, h.len, fun f hf => ⟨(h.gl f hf).1, (h.gl f hf).2.1, Nat.le_succ_of_le (h.gl f hf).2.2⟩⟩
theorem getD_setP {α : Type} {l : List α} {f g : Nat} {x d : α} (hf : f < l.length) : (l.set f x).getD g d = if g = f then x else l.getD g d := by
  by_cases e : g = f
  · subst e
    rw [if_pos rfl, List.getD_eq_getElem?_getD, List.getElem?_set_self hf]; rfl
  · rw [if_neg e, List.getD_eq_getElem?_getD, List.getElem?_set_ne (fun e2 => e e2.symm), ← List.getD_eq_getElem?_getD]
theorem PsS.set {p : Ps} {n f : Nat} {ys : List (List Nat)} {zs : List Int} (h : PsS p n) (hf : f < p.files.length) (h1 : zs.length = ys.length) (h2 : 1 ≤ ys.length) (h3 : ys.length ≤ n + 2) : PsS ⟨p.files.set f ys, p.grown.set f zs, p.dirs⟩ (n + 1) := by
  refine ⟨by have := h.fl; show (p.files.set f ys).length ≤ _; rw [List.length_set]; omega, by show (p.grown.set f zs).length = (p.files.set f ys).length; rw [List.length_set, List.length_set]; exact h.len, fun g hg => ?_⟩
  have hg' : g < p.files.length := by have : g < (p.files.set f ys).length := hg; rw [List.length_set] at this; exact this
  show ((p.grown.set f zs).getD g []).length = ((p.files.set f ys).getD g []).length ∧ 1 ≤ ((p.files.set f ys).getD g []).length ∧ ((p.files.set f ys).getD g []).length ≤ n + 1 + 1
  rw [getD_setP hf, getD_setP (by rw [h.len]; exact hf)]
  by_cases e : g = f
  · rw [if_pos e, if_pos e]; exact ⟨h1, h2, by omega⟩
  · rw [if_neg e, if_neg e]
    have := h.gl g hg'
    exact ⟨this.1, this.2.1, by have := this.2.2; omega⟩
theorem PsS.push {p : Ps} {n : Nat} {ds : List (List (Nm × Nat))} (h : PsS p n) : PsS ⟨p.files ++ [[[]]], p.grown ++ [[-1]], ds⟩ (n + 1) := by
  have hl := h.len
  have hfl := h.fl
  refine ⟨by simp; omega, by simp [hl], fun g hg => ?_⟩
  have hg' : g < p.files.length + 1 := by simpa using hg
  show ((p.grown ++ [[-1]]).getD g []).length = ((p.files ++ [[[]]]).getD g []).length ∧ 1 ≤ ((p.files ++ [[[]]]).getD g []).length ∧ ((p.files ++ [[[]]]).getD g []).length ≤ n + 1 + 1
  by_cases e : g = p.files.length
  · subst e
    rw [getD_app_eq', ← hl, getD_app_eq']
    simp
  · have h9 : g < p.files.length := by omega
    rw [getD_app_lt' _ _ h9, getD_app_lt' _ _ (by omega)]
    have := h.gl g h9
    exact ⟨this.1, this.2.1, by have := this.2.2; omega⟩
end Go.Proofs.YthcnhjmkcekdaaaGreat

namespace Go.Proofs.YthcnhjmkcekdaaaGreat
open Go.RowKit Go.Maps Plain
set_option linter.unusedVariables false
set_option linter.unusedSimpArgs false
def Dk.Nme (k : Dk) : Prop := ∀ q ∈ k.L, q.1 ≠ []
set_option maxHeartbeats 2000000 in
theorem chK_L (k : Dk) (kd : Int) (nm to : ByteArray) (m : Int) (b : List Nat) (G : Nat) : (chK k kd nm to m b G).1 = 0 ∨ (chK k kd nm to m b G).2.L = k.L := by
  unfold chK createK appendK truncK syncK syncDirK renameK removeK
  repeat' split
  all_goals first | exact .inl rfl | exact .inr rfl
theorem nmL_ne {l : Nm} (h : nmL l = true) : l ≠ [] := by
  rintro rfl
  simp [nmL] at h
theorem Dk.Nme.step {k : Dk} {kd m : Int} {nm to : ByteArray} {b : List Nat} {G : Nat} (h : k.Nme) : (chK k kd nm to m b G).2.Nme := by
  rcases chK_L k kd nm to m b G with e | e
  · obtain ⟨k', e2⟩ : ∃ k', chK k kd nm to m b G = (0, k') := ⟨(chK k kd nm to m b G).2, Prod.ext e rfl⟩
    rw [e2]
    show k'.Nme
    unfold chK at e2
    split at e2
    · obtain ⟨-, h2, rfl⟩ := create_zero e2
      intro q hq
      have hq' : q ∈ put k.L nm.data.toList G := hq
      rcases List.mem_cons.mp ((put_permP _ _ _).mem_iff.mp hq') with e3 | e3
      · rw [e3]; exact nmL_ne h2
      · exact h q (List.mem_filter.mp e3).1
    split at e2
    · obtain ⟨H, -, rfl⟩ := append_zero e2
      exact h
    split at e2
    · obtain ⟨H, -, -, -, rfl⟩ := trunc_zero e2
      exact h
    split at e2
    · obtain ⟨H, -, rfl⟩ := sync_zero e2
      exact h
    split at e2
    · have := syncDir_zero e2
      subst this
      exact h
    split at e2
    · obtain ⟨H, h1, -, h2, rfl⟩ := rename_zero e2
      intro q hq
      have hq' : q ∈ DC.on k.L (DC.mv nm.data.toList to.data.toList) := hq
      rw [DC.on_mv, h1] at hq'
      have hq2 : q ∈ del (put k.L to.data.toList H) nm.data.toList := hq'
      rcases List.mem_cons.mp ((put_permP _ _ _).mem_iff.mp (List.mem_filter.mp hq2).1) with e3 | e3
      · rw [e3]; exact nmL_ne h2
      · exact h q (List.mem_filter.mp e3).1
    · obtain ⟨H, -, rfl⟩ := remove_zero e2
      intro q hq
      have hq' : q ∈ del k.L nm.data.toList := hq
      exact h q (List.mem_filter.mp hq').1
  · intro q hq
    rw [e] at hq
    exact h q hq
theorem PsR.zero (q : Int) : PsR (Dk.fresh q) (fun _ => 0) ⟨[], [], [[]]⟩ := by
  refine ⟨fun G H h => h.elim, rfl, fun G h => h.elim, rfl, fun j hj => ?_, fun j hj => ?_⟩
  all_goals
    have : j = 0 := by simpa [Dk.fresh] using hj
    subst this
    simp [Dk.fresh, dst]
theorem PsS.zero : PsS ⟨[], [], [[]]⟩ 0 := ⟨by simp, rfl, fun f hf => by simp at hf⟩
end Go.Proofs.YthcnhjmkcekdaaaGreat

namespace Go.Proofs.YthcnhjmkcekdaaaGreat
open Go.RowKit Go.Maps Plain
set_option linter.unusedVariables false
set_option linter.unusedSimpArgs false
/-- By rising names. -/
def Asc (l : List (Nm × Nat)) : Prop := l.Pairwise fun a b => a.1 < b.1
theorem Asc.left {l : List (Nm × Nat)} (h : Asc l) (s : Nm) : Asc (leftL l s) := List.Pairwise.sublist List.filter_sublist h
theorem Asc.with : ∀ {l : List (Nm × Nat)} (h : Asc l) (x : Nm × Nat) (hx : ∀ y ∈ l, y.1 ≠ x.1), Asc (withL l x)
  | [], h, x, hx => by unfold withL; exact List.pairwise_singleton _ _
  | y :: l, h, x, hx => by
    unfold withL
    obtain ⟨h1, h2⟩ := List.pairwise_cons.mp h
    split
    · rename_i hlt
      refine List.pairwise_cons.mpr ⟨fun z hz => ?_, h⟩
      rcases List.mem_cons.mp hz with e | e
      · rw [e]; exact hlt
      · exact List.lt_trans hlt (h1 z e)
    · rename_i hlt
      refine List.pairwise_cons.mpr ⟨fun z hz => ?_, Asc.with h2 x (fun z hz => hx z (List.mem_cons_of_mem _ hz))⟩
      have hy : y.1 < x.1 := by
        have hne := hx y List.mem_cons_self
        exact Decidable.byContradiction fun hh => hne (List.le_antisymm (List.not_lt.mp hlt) (List.not_lt.mp hh))
      rcases List.mem_cons.mp ((withL_perm l x).mem_iff.mp hz) with e | e
      · rw [e]; exact hy
      · exact h1 z e
theorem Asc.names {l : List (Nm × Nat)} {L : Dir} {ν : Nat → Nat} (h : Asc l) (hp : l.Perm (L.map (nuOf ν))) : l.map (·.1) = nms L := by
  have e : (L.map (nuOf ν)).map (·.1) = L.map (·.1) := by rw [List.map_map]; rfl
  have h1 : (l.map (·.1)).Perm (L.map (·.1)) := by rw [← e]; exact hp.map _
  exact (srt_of h1 (List.Pairwise.map _ (fun a b hab => List.le_of_lt hab) h)).symm
theorem Perm.leads {l : List (Nm × Nat)} {L : Dir} {ν : Nat → Nat} (hp : l.Perm (L.map (nuOf ν))) (hn : (L.map (·.1)).Nodup) {x : Nm × Nat} (hx : x ∈ l) : x.2 = ν (fileOf L x.1) ∧ (x.1, fileOf L x.1) ∈ L := by
  obtain ⟨q, hq, rfl⟩ := List.mem_map.mp (hp.mem_iff.mp hx)
  have := look_of_mem hn (show (q.1, q.2) ∈ L from hq)
  unfold fileOf nuOf
  rw [this]
  exact ⟨rfl, hq⟩
/-- What a loss of power leaves of a file: both say the same. -/
theorem lfR_lf (f : Fl) (ps : List Int) : lfR (sts f) (grs f) ps = lf ps f := by
  have hle := upV_le ps f.chg.length
  unfold lfR lf lfB
  rw [sts_len, Nat.add_sub_cancel, sts_at f hle]
  generalize upV ps f.chg.length = j at *
  by_cases hj : j < f.chg.length
  · have hc : f.chg[j]? = some f.chg[j] := List.getElem?_eq_getElem hj
    have hg : (grs f).getD (j + 1) 0 = grw f.chg[j] := by
      unfold grs
      rw [List.getD_eq_getElem?_getD, List.getElem?_cons_succ, List.getElem?_map, hc]; rfl
    rw [hc, hg]
    have hs := sts_at f (j := j + 1) (by omega)
    rw [fst_take f.dur f.chg j _ hc] at hs
    rw [hs]
    generalize f.chg[j] = c at *
    cases c with
    | inl b =>
      show (if j + 1 < f.chg.length + 1 ∧ 0 ≤ grw (FC.add b) then _ else _) = _
      rw [if_pos ⟨by omega, by rw [grw_add]; omega⟩]
      show (_ ++ List.take (upV ps.tail (grw (FC.add b)).toNat) (List.drop _ (FC.on _ (FC.add b))), _) = (_ ++ (tornB ps.tail (FC.add b)).1, (tornB ps.tail (FC.add b)).2)
      rw [FC.on_add, List.drop_left, tornB_add, grw_add]
      rfl
    | inr n =>
      show (if j + 1 < f.chg.length + 1 ∧ 0 ≤ grw (FC.cut n) then _ else _) = _
      rw [if_neg (fun e => by have := e.2; rw [grw_cut] at this; omega)]
      show (_, _) = (_ ++ (tornB ps.tail (FC.cut n)).1, (tornB ps.tail (FC.cut n)).2)
      rw [tornB_cut, List.append_nil]
  · rw [List.getElem?_eq_none (by omega), if_neg (fun e => by omega)]
    rfl
theorem crL2_imgL (p : Ps) (L : Dir) (k : Dk) : ∀ (l : List (Nm × Nat)) (ps : List Int), (∀ x ∈ l, ∀ qs, lfP p x.2 qs = lf qs (k.file (fileOf L x.1))) → crL2 p l ps = imgL L (fun ps G => (lf ps (k.file G)).1) (fun ps G => (lf ps (k.file G)).2) ps (l.map (·.1))
  | [], ps, h => rfl
  | x :: l, ps, h => by
    have h1 := h x List.mem_cons_self ps
    rw [crL2, List.map_cons, imgL, h1, crL2_imgL p L k l _ (fun y hy => h y (List.mem_cons_of_mem _ hy))]
theorem rimL_imgL (p : Ps) (L : Dir) (k : Dk) : ∀ (l : List (Nm × Nat)), (∀ x ∈ l, p.now x.2 = (k.file (fileOf L x.1)).seen) → rimL p l = imgL L (fun (_ : Unit) G => (k.file G).seen) (fun _ _ => ()) () (l.map (·.1))
  | [], h => rfl
  | x :: l, h => by
    have h1 := h x List.mem_cons_self
    have h2 := rimL_imgL p L k l (fun y hy => h y (List.mem_cons_of_mem _ hy))
    show (x.1, p.now x.2) :: rimL p l = _
    rw [List.map_cons, imgL, h1, h2]
/-- Both disks are the same. -/
structure Rl (k : Dk) (ν : Nat → Nat) (r : Rk) : Prop where
  ps : PsR k ν r.ps
  asc : ∀ l ∈ r.ps.dirs, Asc l
  most : r.most = k.quota
  off : r.off = k.dead
  done : r.done = k.ops
  left : r.left = if k.fused then k.left else -1
theorem Rl.lastAsc {k : Dk} {ν : Nat → Nat} {r : Rk} {n : Nat} (h : Rl k ν r) (hd : k.Dok n) : Asc r.ps.last := by
  obtain ⟨-, -, h1⟩ := h.ps.seen hd
  refine h.asc _ ?_
  unfold Ps.last
  rw [List.getD_eq_getElem?_getD, List.getElem?_eq_getElem (by omega)]
  exact List.getElem_mem _
theorem Rl.now {k : Dk} {ν : Nat → Nat} {r : Rk} {n G : Nat} (h : Rl k ν r) (hd : k.Dok n) (hG : k.live G) : r.ps.now (ν G) = (k.file G).seen := by
  obtain ⟨a1, a2, a3⟩ := h.ps.file G hG
  unfold Ps.now
  rw [a2, sts_last (hd.ok.fok G hG).1]
theorem Rl.image {k : Dk} {ν : Nat → Nat} {r : Rk} {n : Nat} (h : Rl k ν r) (hd : k.Dok n) : rimL r.ps r.ps.last = imK k := by
  obtain ⟨s1, s2, -⟩ := h.ps.seen hd
  have ha := h.lastAsc hd
  rw [rimL_imgL r.ps k.L k r.ps.last (fun x hx => ?_), ha.names s1]
  · rfl
  · obtain ⟨e1, e2⟩ := Perm.leads s1 s2 hx
    rw [e1]
    exact h.now hd (hd.ok.refs _ e2)
theorem Rl.list {k : Dk} {ν : Nat → Nat} {r : Rk} {n : Nat} (h : Rl k ν r) (hd : k.Dok n) : r.ps.last.map (·.1) = nms k.L := (h.lastAsc hd).names (h.ps.seen hd).1
theorem Rl.len {k : Dk} {ν : Nat → Nat} {r : Rk} {n : Nat} (h : Rl k ν r) (hd : k.Dok n) : r.ps.last.length = k.L.length := by rw [(h.ps.seen hd).1.length_eq, List.length_map]
theorem Rl.crash {k : Dk} {ν : Nat → Nat} {r : Rk} {n : Nat} (h : Rl k ν r) (hd : k.Dok n) (ps : List Int) (hlv : ∀ q ∈ crL k ps, k.live q.2) : crR r.ps ps = crK k ps := by
  have hdl := h.ps.dlen
  have hle := upV_le ps k.chg.length
  have hmem : r.ps.dirs.getD (upV ps k.chg.length) [] ∈ r.ps.dirs := by
    rw [List.getD_eq_getElem?_getD, List.getElem?_eq_getElem (by omega)]
    exact List.getElem_mem _
  have ha := h.asc _ hmem
  have hp := h.ps.dir _ hle
  have hn := h.ps.nod _ hle
  unfold crR crK crL
  rw [hdl, Nat.add_sub_cancel]
  rw [crL2_imgL r.ps (dst k.Ld (k.chg.take (upV ps k.chg.length))) k _ _ (fun x hx qs => ?_), ha.names hp]
  obtain ⟨e1, e2⟩ := Perm.leads hp hn hx
  obtain ⟨a1, a2, a3⟩ := h.ps.file _ (hlv _ e2)
  unfold lfP
  rw [e1, a2, a3]
  exact lfR_lf _ _
end Go.Proofs.YthcnhjmkcekdaaaGreat

namespace Go.Proofs.YthcnhjmkcekdaaaGreat
open Go.RowKit Go.Maps Plain
set_option linter.unusedVariables false
set_option linter.unusedSimpArgs false
/-- What the document's disk does of a change: z is its refusal, f what it does. -/
def doX (r : Rk) (z : Int) (f : Rk → Rk) : Int × Rk := if r.off = true then (34, r) else if z ≠ 0 then (z, r) else if r.can = true then (0, f r.spent) else (34, r.spent)
theorem Rl.spent {k : Dk} {ν : Nat → Nat} {r : Rk} (h : Rl k ν r) (hf : k.fused = true → 0 ≤ k.left) (hd : k.dead = false) : r.can = k.can ∧ Rl k.spent ν r.spent := by
  have hl := h.left
  have hps : PsR k.spent ν r.ps := h.ps.same rfl rfl rfl rfl
  have fin : ∀ (b d : Bool) (o l l' : Int), spd k.ops k.fused k.left k.dead = (b, o, l, d) → r.can = b → r.spent = ⟨r.ps, r.most, l', d, o⟩ → l' = (if k.fused then l else -1) → r.can = k.can ∧ Rl k.spent ν r.spent := fun b d o l l' e1 e2 e3 e4 => by
    refine ⟨by unfold Dk.can; rw [e1]; exact e2, ?_⟩
    rw [e3]
    refine ⟨hps, h.asc, h.most, ?_, ?_, ?_⟩
    · show d = (spd k.ops k.fused k.left k.dead).2.2.2
      rw [e1]
    · show o = (spd k.ops k.fused k.left k.dead).2.1
      rw [e1]
    · show l' = if k.fused = true then (spd k.ops k.fused k.left k.dead).2.2.1 else -1
      rw [e1]; exact e4
  have hoff := h.off
  have hdo := h.done
  cases e : k.fused with
  | false =>
    rw [e, if_neg (by simp)] at hl
    refine fin true k.dead (k.ops + 1) k.left (-1) (by unfold spd; rw [e]; simp) (by unfold Rk.can; rw [hl]; decide) (by unfold Rk.spent; rw [hl, hoff, hdo]; simp) (by rw [e]; simp)
  | true =>
    have h0 := hf e
    rw [e, if_pos rfl] at hl
    by_cases hz : k.left = 0
    · refine fin false true k.ops k.left k.left (by unfold spd; rw [e, hz]; simp) (by unfold Rk.can; rw [hl, hz]; decide) (by unfold Rk.spent; rw [hl, hdo, if_pos hz]) (by rw [e]; simp)
    · refine fin true k.dead (k.ops + 1) (k.left - 1) (k.left - 1) (by unfold spd; rw [e]; simp [hz]) (by unfold Rk.can; rw [hl]; simp [hz]) (by unfold Rk.spent; rw [hl, hoff, hdo, if_neg hz, if_pos (by omega)]) (by rw [e]; simp)
theorem Rl.kind {k : Dk} {ν : Nat → Nat} {r : Rk} {n : Nat} (h : Rl k ν r) (hd : k.Dok n) {c : Int × Dk} {z : Int} {f : Rk → Rk} (hdead : k.dead = true → c = (34, k)) (href : k.dead = false → z ≠ 0 → c = (z, k)) (hburn : k.dead = false → z = 0 → k.can = false → c = (34, k.spent)) (hgo : k.dead = false → z = 0 → k.can = true → Rl k.spent ν r.spent → ∃ k' ν', c = (0, k') ∧ Rl k' ν' (f r.spent)) :
    ∃ ν', c.1 = (doX r z f).1 ∧ Rl c.2 ν' (doX r z f).2 := by
  unfold doX
  cases e : k.dead with
  | true =>
    rw [hdead e, if_pos (by rw [h.off]; exact e)]
    exact ⟨ν, rfl, h⟩
  | false =>
    rw [if_neg (by rw [h.off, e]; simp)]
    obtain ⟨hc, hs⟩ := h.spent (fun e2 => (hd.ok.fuse e2).1) e
    by_cases hz : z = 0
    · rw [if_neg (by simpa using hz), hc]
      cases e2 : k.can with
      | false => rw [hburn e hz e2, if_neg (by simp)]; exact ⟨ν, rfl, hs⟩
      | true =>
        obtain ⟨k', ν', e3, h3⟩ := hgo e hz e2 hs
        rw [e3, if_pos rfl]
        exact ⟨ν', rfl, h3⟩
    · rw [href e hz, if_pos hz]; exact ⟨ν, rfl, h⟩
/-- What is done of a disk that has spent. -/
theorem Rl.done' {k k' : Dk} {ν ν' : Nat → Nat} {r r' : Rk} (hs : Rl k.spent ν r.spent) (hp : PsR k' ν' r'.ps) (ha : ∀ l ∈ r'.ps.dirs, Asc l) (q : k'.quota = k.spent.quota := by rfl) (d : k'.dead = k.spent.dead := by rfl) (o : k'.ops = k.spent.ops := by rfl) (f : k'.fused = k.spent.fused := by rfl) (l : k'.left = k.spent.left := by rfl) (q' : r'.most = r.spent.most := by rfl) (d' : r'.off = r.spent.off := by rfl) (o' : r'.done = r.spent.done := by rfl) (l' : r'.left = r.spent.left := by rfl) : Rl k' ν' r' :=
  ⟨hp, ha, by rw [q', q]; exact hs.most, by rw [d', d]; exact hs.off, by rw [o', o]; exact hs.done, by rw [l', l, f]; exact hs.left⟩
theorem Rl.fndEq {k : Dk} {ν : Nat → Nat} {r : Rk} {n : Nat} (h : Rl k ν r) (hd : k.Dok n) (hk : k.dead = false) (nm : ByteArray) : (fnd k.dead k.L nm).2 = rfs4 r.ps nm := by
  have hl := h.ps.lead hd nm.data.toList
  unfold fnd rfs4
  rw [hk, hl, if_neg (by simp)]
  by_cases e : nmL nm.data.toList = true
  · rw [if_pos e, if_pos e]
    cases e2 : look k.L nm.data.toList with
    | none => rw [if_pos (by show (-1 : Int) < 0; decide)]
    | some G => rw [if_neg (by show ¬ ((ν G : Nat) : Int) < 0; omega)]
  · rw [if_neg e, if_neg e]
theorem fnd_off {k : Dk} (hk : k.dead = true) (nm : ByteArray) : (fnd k.dead k.L nm).2 = 34 := by unfold fnd; rw [hk]; rfl
theorem Rl.k4 {k : Dk} {ν : Nat → Nat} {r : Rk} {n : Nat} (h : Rl k ν r) (hd : k.Dok n) (nm : ByteArray) : ∃ ν', (syncK k nm).1 = (doX r (rfs4 r.ps nm) fun q => rdo4 q (leadL r.ps.last nm.data.toList).toNat).1 ∧ Rl (syncK k nm).2 ν' (doX r (rfs4 r.ps nm) fun q => rdo4 q (leadL r.ps.last nm.data.toList).toNat).2 := by
  refine h.kind hd (fun e => ?_) (fun e hz => ?_) (fun e hz hc => ?_) (fun e hz hc hs => ?_)
  · unfold syncK; rw [fnd_off e, if_neg (by decide)]
  · unfold syncK; rw [h.fndEq hd e, if_neg hz]
  · have hf := h.fndEq hd e nm
    rw [hz] at hf
    obtain ⟨G, hG⟩ := fnd_zero hf
    unfold syncK; rw [hf, if_pos rfl, hG]; simp [hc]
  · have hf := h.fndEq hd e nm
    rw [hz] at hf
    obtain ⟨G, hG⟩ := fnd_zero hf
    have hc0 : syncK k nm = (0, k.spent.setFile G ⟨(k.file G).seen, (k.file G).seen, []⟩) := by unfold syncK; rw [hf, if_pos rfl, hG]; simp [hc]
    obtain ⟨f, e1, e2, e3⟩ := h.ps.sync hd hc0
    refine ⟨_, ν, hc0, hs.done' ?_ ?_⟩
    · show PsR _ ν ⟨r.spent.ps.files.set _ [r.spent.ps.now _], r.spent.ps.grown.set _ [-1], r.spent.ps.dirs⟩
      rw [Rk.spent_ps, e1, Int.toNat_natCast]
      exact e3
    · exact hs.asc
theorem Rl.k5 {k : Dk} {ν : Nat → Nat} {r : Rk} {n : Nat} (h : Rl k ν r) (hd : k.Dok n) : ∃ ν', (syncDirK k).1 = (doX r 0 rdo5).1 ∧ Rl (syncDirK k).2 ν' (doX r 0 rdo5).2 := by
  refine h.kind hd (fun e => ?_) (fun e hz => absurd rfl hz) (fun e hz hc => ?_) (fun e hz hc hs => ?_)
  · unfold syncDirK; rw [e]; rfl
  · unfold syncDirK; rw [e, hc]; rfl
  · have hc0 : syncDirK k = (0, k.spent.settled) := by unfold syncDirK; rw [e, hc]; rfl
    refine ⟨_, ν, hc0, hs.done' ?_ (fun l hl => ?_)⟩
    · show PsR _ ν ⟨r.spent.ps.files, r.spent.ps.grown, [r.spent.ps.last]⟩
      rw [Rk.spent_ps]
      exact h.ps.syncDir hd hc0
    · have : l = r.spent.ps.last := by simpa [rdo5] using hl
      rw [this, Rk.spent_ps]
      exact h.lastAsc hd
theorem Rl.k7 {k : Dk} {ν : Nat → Nat} {r : Rk} {n : Nat} (h : Rl k ν r) (hd : k.Dok n) (nm : ByteArray) : ∃ ν', (removeK k nm).1 = (doX r (rfs4 r.ps nm) fun q => rdo7 q nm).1 ∧ Rl (removeK k nm).2 ν' (doX r (rfs4 r.ps nm) fun q => rdo7 q nm).2 := by
  refine h.kind hd (fun e => ?_) (fun e hz => ?_) (fun e hz hc => ?_) (fun e hz hc hs => ?_)
  · unfold removeK; rw [fnd_off e, if_neg (by decide)]
  · unfold removeK; rw [h.fndEq hd e, if_neg hz]
  · have hf := h.fndEq hd e nm
    rw [hz] at hf
    unfold removeK; rw [hf, if_pos rfl]; simp [hc]
  · have hf := h.fndEq hd e nm
    rw [hz] at hf
    have hc0 : removeK k nm = (0, (k.spent.uses (k.used - sizeK k nm)).did (DC.rm nm.data.toList)) := by unfold removeK; rw [hf, if_pos rfl]; simp [hc]
    obtain ⟨f, e1, e2, e3⟩ := h.ps.remove hd hc0
    refine ⟨_, ν, hc0, hs.done' ?_ (fun l hl => ?_)⟩
    · show PsR _ ν ⟨r.spent.ps.files, r.spent.ps.grown, r.spent.ps.dirs ++ [leftL r.spent.ps.last nm.data.toList]⟩
      rw [Rk.spent_ps]
      exact e3
    · have hl' : l ∈ r.spent.ps.dirs ++ [leftL r.spent.ps.last nm.data.toList] := hl
      rw [Rk.spent_ps] at hl'
      rcases List.mem_append.mp hl' with h1 | h1
      · exact h.asc l h1
      · rw [List.mem_singleton.mp h1]; exact (h.lastAsc hd).left _
theorem Rl.k3 {k : Dk} {ν : Nat → Nat} {r : Rk} {n : Nat} (h : Rl k ν r) (hd : k.Dok n) (nm : ByteArray) (m : Int) : ∃ ν', (truncK k nm m).1 = (doX r (rfs3 r.ps nm m) fun q => rdo3 q (leadL r.ps.last nm.data.toList).toNat m.toNat).1 ∧ Rl (truncK k nm m).2 ν' (doX r (rfs3 r.ps nm m) fun q => rdo3 q (leadL r.ps.last nm.data.toList).toNat m.toNat).2 := by
  have hz3 : k.dead = false → (rfs4 r.ps nm ≠ 0 → rfs3 r.ps nm m = rfs4 r.ps nm) ∧ (rfs4 r.ps nm = 0 → ∃ G, look k.L nm.data.toList = some G ∧ rfs3 r.ps nm m = if m < 0 ∨ ((k.file G).seen.length : Int) < m then 3 else 0) := fun e => by
    refine ⟨fun hz => ?_, fun hz => ?_⟩
    · unfold rfs4 at hz ⊢
      unfold rfs3
      by_cases h1 : nmL nm.data.toList = true
      · rw [if_pos h1] at hz ⊢
        rw [if_pos h1]
        by_cases h2 : leadL r.ps.last nm.data.toList < 0
        · rw [if_pos h2, if_pos h2]
        · rw [if_neg h2] at hz; exact absurd rfl hz
      · rw [if_neg h1, if_neg h1]
    · have hf := h.fndEq hd e nm
      rw [hz] at hf
      obtain ⟨G, hG⟩ := fnd_zero hf
      refine ⟨G, hG, ?_⟩
      have hl := h.ps.leads hd hG
      unfold rfs4 at hz
      unfold rfs3
      by_cases h1 : nmL nm.data.toList = true
      · rw [if_pos h1, hl.1, if_neg (by omega), Int.toNat_natCast, h.now hd hl.2.2.2.2.1]
      · rw [if_neg h1] at hz; cases hz
  refine h.kind hd (fun e => ?_) (fun e hz => ?_) (fun e hz hc => ?_) (fun e hz hc hs => ?_)
  · unfold truncK; rw [fnd_off e, if_neg (by decide)]
  · obtain ⟨z1, z2⟩ := hz3 e
    by_cases h4 : rfs4 r.ps nm = 0
    · obtain ⟨G, hG, e3⟩ := z2 h4
      rw [e3] at hz ⊢
      have hf := h.fndEq hd e nm
      rw [h4] at hf
      by_cases hm : m < 0 ∨ ((k.file G).seen.length : Int) < m
      · rw [if_pos hm]
        unfold truncK; rw [hf, if_pos rfl, hG]
        show (if m < 0 ∨ m > _ then _ else _) = _
        rw [if_pos hm]
      · rw [if_neg hm] at hz; exact absurd rfl hz
    · unfold truncK; rw [h.fndEq hd e, if_neg h4, z1 h4]
  · obtain ⟨z1, z2⟩ := hz3 e
    have h4 : rfs4 r.ps nm = 0 := Decidable.byContradiction fun h4 => h4 ((z1 h4).symm.trans hz)
    obtain ⟨G, hG, e3⟩ := z2 h4
    have hf := h.fndEq hd e nm
    rw [h4] at hf
    rw [hz] at e3
    have hm : ¬ (m < 0 ∨ ((k.file G).seen.length : Int) < m) := fun hm => by rw [if_pos hm] at e3; cases e3
    unfold truncK; rw [hf, if_pos rfl, hG]
    show (if m < 0 ∨ m > _ then _ else _) = _
    rw [if_neg hm]; simp [hc]
  · obtain ⟨z1, z2⟩ := hz3 e
    have h4 : rfs4 r.ps nm = 0 := Decidable.byContradiction fun h4 => h4 ((z1 h4).symm.trans hz)
    obtain ⟨G, hG, e3⟩ := z2 h4
    have hf := h.fndEq hd e nm
    rw [h4] at hf
    rw [hz] at e3
    have hm : ¬ (m < 0 ∨ ((k.file G).seen.length : Int) < m) := fun hm => by rw [if_pos hm] at e3; cases e3
    have hc0 : truncK k nm m = (0, (k.spent.uses (k.used - ((k.file G).seen.length - m))).setFile G ((k.file G).trim m.toNat)) := by
      unfold truncK; rw [hf, if_pos rfl, hG]
      show (if m < 0 ∨ m > _ then _ else _) = _
      rw [if_neg hm]; simp [hc]
    obtain ⟨f, e1, e2, -, -, e4⟩ := h.ps.trunc hd hc0
    refine ⟨_, ν, hc0, hs.done' ?_ ?_⟩
    · show PsR _ ν ⟨r.spent.ps.files.set _ (r.spent.ps.files.getD _ [] ++ [(r.spent.ps.now _).take m.toNat]), r.spent.ps.grown.set _ (r.spent.ps.grown.getD _ [] ++ [-1]), r.spent.ps.dirs⟩
      rw [Rk.spent_ps, e1, Int.toNat_natCast]
      exact e4
    · exact hs.asc
end Go.Proofs.YthcnhjmkcekdaaaGreat
