import Derived.Test.YtgpmhflndcppeaaQp20
import Derived.Test.YtgpmhflndcppeaaQp21
import Derived.Test.YtgpmhflndcppeaaQp23
import Derived.Test.YtgpmhflndcppeaaQp24
import Derived.Test.YtgpmhflndcppeaaQp12
/-! The law on the past, plainly: a change that went well, and what is written down of it. -/
namespace Go.Proofs.Ytgpmhflndcppeaa
open Go.RowKit Go.Maps Plain
set_option linter.unusedVariables false
set_option linter.unusedSimpArgs false

theorem fnd_zero {k : Dk} {s : ByteArray} (h : (fnd k.dead k.L s).2 = 0) : ∃ G, look k.L s.data.toList = some G := by
  obtain ⟨g, h1, -⟩ := fnd_ok h
  exact ⟨g, h1⟩
/-- Append. -/
theorem append_zero {k k' : Dk} {s : ByteArray} {b : List Nat} (h : appendK k s b = (0, k')) : ∃ G, look k.L s.data.toList = some G ∧ k' = (k.spent.setFile G ((k.file G).add b)).uses (k.used + b.length) := by
  unfold appendK at h
  split at h
  · rename_i h1
    obtain ⟨G, hG⟩ := fnd_zero h1
    rw [hG] at h
    split at h
    · exact absurd (congrArg Prod.fst h) (by simp)
    · simp only at h
      split at h
      · exact ⟨G, hG, (congrArg Prod.snd h).symm⟩
      · exact absurd (congrArg Prod.fst h) (by simp)
  · rename_i h1
    exact absurd (congrArg Prod.fst h) h1
theorem trunc_zero {k k' : Dk} {s : ByteArray} {n : Int} (h : truncK k s n = (0, k')) : ∃ G, look k.L s.data.toList = some G ∧ 0 ≤ n ∧ n ≤ (k.file G).seen.length ∧ k' = (k.spent.uses (k.used - ((k.file G).seen.length - n))).setFile G ((k.file G).trim n.toNat) := by
  unfold truncK at h
  split at h
  · rename_i h1
    obtain ⟨G, hG⟩ := fnd_zero h1
    rw [hG] at h
    simp only at h
    split at h
    · exact absurd (congrArg Prod.fst h) (by simp)
    · split at h
      · exact ⟨G, hG, by omega, by omega, (congrArg Prod.snd h).symm⟩
      · exact absurd (congrArg Prod.fst h) (by simp)
  · rename_i h1
    exact absurd (congrArg Prod.fst h) h1
theorem sync_zero {k k' : Dk} {s : ByteArray} (h : syncK k s = (0, k')) : ∃ G, look k.L s.data.toList = some G ∧ k' = k.spent.setFile G ⟨(k.file G).seen, (k.file G).seen, []⟩ := by
  unfold syncK at h
  split at h
  · rename_i h1
    obtain ⟨G, hG⟩ := fnd_zero h1
    rw [hG] at h
    simp only at h
    split at h
    · exact ⟨G, hG, (congrArg Prod.snd h).symm⟩
    · exact absurd (congrArg Prod.fst h) (by simp)
  · rename_i h1
    exact absurd (congrArg Prod.fst h) h1
theorem syncDir_zero {k k' : Dk} (h : syncDirK k = (0, k')) : k' = k.spent.settled := by
  unfold syncDirK at h
  split at h
  · exact absurd (congrArg Prod.fst h) (by simp)
  · split at h
    · exact (congrArg Prod.snd h).symm
    · exact absurd (congrArg Prod.fst h) (by simp)
theorem remove_zero {k k' : Dk} {s : ByteArray} (h : removeK k s = (0, k')) : ∃ G, look k.L s.data.toList = some G ∧ k' = (k.spent.uses (k.used - sizeK k s)).did (DC.rm s.data.toList) := by
  unfold removeK at h
  split at h
  · rename_i h1
    obtain ⟨G, hG⟩ := fnd_zero h1
    split at h
    · exact ⟨G, hG, (congrArg Prod.snd h).symm⟩
    · exact absurd (congrArg Prod.fst h) (by simp)
  · rename_i h1
    exact absurd (congrArg Prod.fst h) h1
theorem create_zero {k k' : Dk} {s : ByteArray} {G : Nat} (h : createK k s G = (0, k')) : look k.L s.data.toList = none ∧ nmL s.data.toList = true ∧ k' = (k.spent.addFile G).did (DC.mk s.data.toList G) := by
  unfold createK at h
  split at h
  · rename_i h1
    exact absurd (congrArg Prod.fst h) h1
  · rename_i h1
    split at h
    · exact absurd (congrArg Prod.fst h) (by simp)
    · rename_i h2
      split at h
      · exact absurd (congrArg Prod.fst h) (by simp)
      · split at h
        · refine ⟨by simpa using h2, ?_, (congrArg Prod.snd h).symm⟩
          have h3 : rdy k.dead [s] = 0 := by simpa using h1
          unfold rdy at h3
          split at h3
          · simp at h3
          · split at h3
            · rename_i h4; simpa [nmsB] using h4
            · simp at h3
        · exact absurd (congrArg Prod.fst h) (by simp)
theorem rename_zero {k k' : Dk} {s t : ByteArray} (h : renameK k s t = (0, k')) : ∃ G, look k.L s.data.toList = some G ∧ s ≠ t ∧ nmL t.data.toList = true ∧ k' = (k.spent.uses (k.used - sizeK k t)).did (DC.mv s.data.toList t.data.toList) := by
  unfold renameK at h
  split at h
  · rename_i h1
    exact absurd (congrArg Prod.fst h) h1
  · rename_i h1
    split at h
    · exact absurd (congrArg Prod.fst h) (by simp)
    · rename_i h2
      split at h
      · rename_i h5
        obtain ⟨G, hG⟩ := fnd_zero h5
        split at h
        · refine ⟨G, hG, h2, ?_, (congrArg Prod.snd h).symm⟩
          have h3 : rdy k.dead [s, t] = 0 := by simpa using h1
          unfold rdy at h3
          split at h3
          · simp at h3
          · split at h3
            · rename_i h4
              simp [nmsB] at h4
              exact h4.2
            · simp at h3
        · exact absurd (congrArg Prod.fst h) (by simp)
      · rename_i h5
        exact absurd (congrArg Prod.fst h) h5
end Go.Proofs.Ytgpmhflndcppeaa

/-! The law on the past, plainly: what is written down of a change that went well is what the disk has gone through. -/
namespace Go.Proofs.Ytgpmhflndcppeaa
open Go.RowKit Go.Maps Plain
set_option linter.unusedVariables false
set_option linter.unusedSimpArgs false

theorem PsR.lead {k : Dk} {ν : Nat → Nat} {p : Ps} {n : Nat} (h : PsR k ν p) (hd : k.Dok n) (s : Nm) : leadL p.last s = (look k.L s).elim (-1) fun G => (ν G : Int) := by
  obtain ⟨s1, s2, -⟩ := h.seen hd
  exact lead_of s1 s2 s
/-- What a name leads to. -/
theorem PsR.leads {k : Dk} {ν : Nat → Nat} {p : Ps} {n G : Nat} {s : Nm} (h : PsR k ν p) (hd : k.Dok n) (hl : look k.L s = some G) : leadL p.last s = (ν G : Int) ∧ ν G < p.files.length ∧ p.files.getD (ν G) [] = sts (k.file G) ∧ p.grown.getD (ν G) [] = grs (k.file G) ∧ k.live G ∧ (k.file G).Ok := by
  have hG : k.live G := hd.ok.refs _ (look_mem hl)
  obtain ⟨a1, a2, a3⟩ := h.file G hG
  exact ⟨by rw [h.lead hd, hl]; rfl, a1, a2, a3, hG, (hd.ok.fok G hG).1⟩
theorem PsR.append {k k' : Dk} {ν : Nat → Nat} {p : Ps} {n : Nat} {s : ByteArray} {b : List Nat} (h : PsR k ν p) (hd : k.Dok n) (e : appendK k s b = (0, k')) :
    ∃ f : Nat, leadL p.last s.data.toList = (f : Int) ∧ f < p.files.length ∧ PsR k' ν ⟨p.files.set f (p.files.getD f [] ++ [(p.files.getD f []).getD ((p.files.getD f []).length - 1) [] ++ b]), p.grown.set f (p.grown.getD f [] ++ [(b.length : Int)]), p.dirs⟩ := by
  obtain ⟨G, hl, rfl⟩ := append_zero e
  obtain ⟨a0, a1, a2, a3, a4, a5⟩ := h.leads hd hl
  refine ⟨ν G, a0, a1, ?_⟩
  rw [a2, a3, sts_last a5, ← sts_add a5, ← grs_add]
  exact h.setF a4 rfl rfl rfl rfl
theorem PsR.trunc {k k' : Dk} {ν : Nat → Nat} {p : Ps} {n : Nat} {s : ByteArray} {m : Int} (h : PsR k ν p) (hd : k.Dok n) (e : truncK k s m = (0, k')) :
    ∃ f : Nat, leadL p.last s.data.toList = (f : Int) ∧ f < p.files.length ∧ 0 ≤ m ∧ m.toNat ≤ ((p.files.getD f []).getD ((p.files.getD f []).length - 1) []).length ∧ PsR k' ν ⟨p.files.set f (p.files.getD f [] ++ [((p.files.getD f []).getD ((p.files.getD f []).length - 1) []).take m.toNat]), p.grown.set f (p.grown.getD f [] ++ [(-1 : Int)]), p.dirs⟩ := by
  obtain ⟨G, hl, h0, h1, rfl⟩ := trunc_zero e
  obtain ⟨a0, a1, a2, a3, a4, a5⟩ := h.leads hd hl
  refine ⟨ν G, a0, a1, h0, ?_, ?_⟩
  · rw [a2, sts_last a5]; omega
  · rw [a2, a3, sts_last a5, ← sts_trim a5, ← grs_trim _ m.toNat]
    exact h.setF a4 rfl rfl rfl rfl
theorem PsR.sync {k k' : Dk} {ν : Nat → Nat} {p : Ps} {n : Nat} {s : ByteArray} (h : PsR k ν p) (hd : k.Dok n) (e : syncK k s = (0, k')) :
    ∃ f : Nat, leadL p.last s.data.toList = (f : Int) ∧ f < p.files.length ∧ PsR k' ν ⟨p.files.set f [(p.files.getD f []).getD ((p.files.getD f []).length - 1) []], p.grown.set f [-1], p.dirs⟩ := by
  obtain ⟨G, hl, rfl⟩ := sync_zero e
  obtain ⟨a0, a1, a2, a3, a4, a5⟩ := h.leads hd hl
  refine ⟨ν G, a0, a1, ?_⟩
  rw [a2, sts_last a5, ← sts_synced, ← grs_synced (k.file G).seen]
  exact h.setF a4 rfl rfl rfl rfl
theorem PsR.syncDir {k k' : Dk} {ν : Nat → Nat} {p : Ps} {n : Nat} (h : PsR k ν p) (hd : k.Dok n) (e : syncDirK k = (0, k')) : PsR k' ν ⟨p.files, p.grown, [p.last]⟩ := by
  have := syncDir_zero e
  subst this
  exact h.settled hd rfl rfl rfl rfl
theorem PsR.remove {k k' : Dk} {ν : Nat → Nat} {p : Ps} {n : Nat} {s : ByteArray} (h : PsR k ν p) (hd : k.Dok n) (e : removeK k s = (0, k')) :
    ∃ f : Nat, leadL p.last s.data.toList = (f : Int) ∧ f < p.files.length ∧ PsR k' ν ⟨p.files, p.grown, p.dirs ++ [leftL p.last s.data.toList]⟩ := by
  obtain ⟨G, hl, rfl⟩ := remove_zero e
  obtain ⟨a0, a1, a2, a3, a4, a5⟩ := h.leads hd hl
  obtain ⟨s1, s2, -⟩ := h.seen hd
  refine ⟨ν G, a0, a1, h.did hd rfl rfl rfl rfl ?_⟩
  rw [DC.on_rm, ← left_map]
  exact left_perm s1 _
theorem del_noneP {L : Dir} {s : Nm} (h : look L s = none) : del L s = L := by
  unfold del
  rw [List.filter_eq_self]
  intro q hq
  unfold look at h
  rw [Option.map_eq_none_iff, List.find?_eq_none] at h
  simpa using h q hq
theorem left_noneP {l : List (Nm × Nat)} {s : Nm} (h : ∀ x ∈ l, x.1 ≠ s) : leftL l s = l := by
  unfold leftL
  rw [List.filter_eq_self]
  intro x hx
  simpa using h x hx
theorem del_commP (L : Dir) (a b : Nm) : del (del L a) b = del (del L b) a := by
  unfold del
  rw [List.filter_filter, List.filter_filter]
  congr 1
  funext x
  exact Bool.and_comm _ _
theorem PsR.rename {k k' : Dk} {ν : Nat → Nat} {p : Ps} {n : Nat} {s t : ByteArray} (h : PsR k ν p) (hd : k.Dok n) (e : renameK k s t = (0, k')) :
    ∃ f : Nat, leadL p.last s.data.toList = (f : Int) ∧ f < p.files.length ∧ PsR k' ν ⟨p.files, p.grown, p.dirs ++ [leftL (leftL p.last s.data.toList) t.data.toList ++ [(t.data.toList, f)]]⟩ := by
  obtain ⟨G, hl, hne, hnm, rfl⟩ := rename_zero e
  obtain ⟨a0, a1, a2, a3, a4, a5⟩ := h.leads hd hl
  obtain ⟨s1, s2, -⟩ := h.seen hd
  have hst : t.data.toList ≠ s.data.toList := fun e2 => hne (by
    cases s; cases t
    simp only [Array.toList_inj] at e2
    rw [e2])
  refine ⟨ν G, a0, a1, h.did hd rfl rfl rfl rfl ?_⟩
  rw [DC.on_mv, hl]
  show List.Perm _ ((del (put k.L t.data.toList G) s.data.toList).map (nuOf ν))
  have h1 : (del (put k.L t.data.toList G) s.data.toList).Perm ((t.data.toList, G) :: del (del k.L s.data.toList) t.data.toList) := by
    have h2 := (put_permP k.L t.data.toList G).filter (fun q => !(q.1 == s.data.toList))
    rw [List.filter_cons_of_pos (by simpa using hst)] at h2
    rw [del_commP]
    exact h2
  refine List.Perm.trans ?_ (h1.map (nuOf ν)).symm
  rw [List.map_cons, ← left_map, ← left_map]
  exact (List.perm_append_singleton _ _).trans (List.Perm.cons _ (left_perm (left_perm s1 _) _))
theorem PsR.create {k k' : Dk} {ν : Nat → Nat} {p : Ps} {n G : Nat} {s : ByteArray} (h : PsR k ν p) (hd : k.Dok n) (hp : k.Past) (hG : ¬ k.live G) (hnm : ∀ q ∈ k.L, q.1 ≠ []) (e : createK k s G = (0, k')) :
    leadL p.last s.data.toList = -1 ∧ PsR k' (upd ν G p.files.length) ⟨p.files ++ [[[]]], p.grown ++ [[-1]], p.dirs ++ [leftL p.last [] ++ [(s.data.toList, p.files.length)]]⟩ := by
  obtain ⟨hl, hn, rfl⟩ := create_zero e
  obtain ⟨s1, s2, s3⟩ := h.seen hd
  refine ⟨by rw [h.lead hd, hl]; rfl, ?_⟩
  have hf : PsR (k.addFile G) (upd ν G p.files.length) ⟨p.files ++ [[[]]], p.grown ++ [[-1]], p.dirs⟩ := h.fresh hp hG rfl rfl rfl rfl
  have hd1 : (k.addFile G).Dok n := by
    refine ⟨⟨fun q hq => .inl (hd.ok.refs q hq), fun H hH => ?_, hd.ok.ops, hd.ok.fuse⟩, hd.dir, hd.eq, hd.cnt, hd.few⟩
    show ((upd k.file G ⟨[], [], []⟩) H).Ok ∧ ((upd k.file G ⟨[], [], []⟩) H).chg.length ≤ n
    by_cases e2 : H = G
    · subst e2
      rw [upd_same]
      exact ⟨⟨rfl, fun k n e => by simp at e, fun k => by simp [fst], by simp⟩, by simp⟩
    · rw [upd_other _ _ _ _ e2]
      rcases hH with hH | hH
      · exact hd.ok.fok H hH
      · exact absurd hH e2
  refine hf.did hd1 rfl rfl rfl rfl ?_
  obtain ⟨q1, q2, -⟩ := hf.seen hd1
  rw [DC.on_mk]
  have hl' : look (k.addFile G).L s.data.toList = none := hl
  have h1 : (put (k.addFile G).L s.data.toList G).Perm ((s.data.toList, G) :: (k.addFile G).L) := by
    have := put_permP (k.addFile G).L s.data.toList G
    rw [del_noneP hl'] at this
    exact this
  refine List.Perm.trans ?_ (h1.map _).symm
  rw [List.map_cons]
  have hx : nuOf (upd ν G p.files.length) (s.data.toList, G) = (s.data.toList, p.files.length) := by unfold nuOf; rw [upd_same]
  rw [hx, left_noneP (fun x hx2 => by
    obtain ⟨q, hq, e3⟩ := List.mem_map.mp (s1.mem_iff.mp hx2)
    rw [← e3]
    exact hnm q hq)]
  exact (List.perm_append_singleton _ _).trans (List.Perm.cons _ q1)
end Go.Proofs.Ytgpmhflndcppeaa

/-! The law on the past: what it keeps stays in its bounds; note of whatever change went well. -/
namespace Go.Proofs.Ytgpmhflndcppeaa
open Go.RowKit Go.Maps Plain
set_option linter.unusedVariables false
set_option linter.unusedSimpArgs false

structure PsS (p : Ps) (n : Nat) : Prop where
  fl : p.files.length ≤ n
  len : p.grown.length = p.files.length
  gl : ∀ f, f < p.files.length → (p.grown.getD f []).length = (p.files.getD f []).length ∧ 1 ≤ (p.files.getD f []).length ∧ (p.files.getD f []).length ≤ n + 1
theorem PsS.ok {k : Dk} {ν : Nat → Nat} {p : Ps} {n : Nat} (h : PsS p n) (hr : PsR k ν p) (hd : k.Dok n) (hp : k.Past) (hn : n ≤ 2000000000000) : p.Ok := by
  have hfl := h.fl
  have hdl : p.dirs.length ≤ n + 1 := by have := hr.dlen; have := hd.cnt; omega
  refine ⟨by omega, by omega, fun j hj => ?_, fun j hj x hx => ?_, h.len, fun f hf => ⟨(h.gl f hf).1, by have := (h.gl f hf).2.2; omega⟩, fun f hf => (h.gl f hf).2.1⟩
  · have hj' : j ≤ k.chg.length := by have := hr.dlen; omega
    rw [(hr.dir j hj').length_eq, List.length_map]
    have h1 := dst_len (k.chg.take j) k.Ld
    have h2 := hp.few
    have h3 : (k.chg.take j).length ≤ j := by simp; omega
    omega
  · have hj' : j ≤ k.chg.length := by have := hr.dlen; omega
    obtain ⟨q, hq, rfl⟩ := List.mem_map.mp ((hr.dir j hj').mem_iff.mp hx)
    have hlv : k.live q.2 := dst_live (lv := k.live) (k.chg.take j) k.Ld hp.ld (fun nm g hg => hp.made nm g (List.mem_of_mem_take hg)) q hq
    exact (hr.file q.2 hlv).1
theorem PsS.more {p : Ps} {n : Nat} {ds : List (List (Nm × Nat))} (h : PsS p n) : PsS ⟨p.files, p.grown, ds⟩ (n + 1) := ⟨by have := h.fl; show p.files.length ≤ _; omega, h.len, fun f hf => ⟨(h.gl f hf).1, (h.gl f hf).2.1, Nat.le_succ_of_le (h.gl f hf).2.2⟩⟩
theorem getD_setP {α : Type} {l : List α} {f g : Nat} {x d : α} (hf : f < l.length) : (l.set f x).getD g d = if g = f then x else l.getD g d := by
  by_cases e : g = f
  · subst e
    rw [if_pos rfl, List.getD_eq_getElem?_getD, List.getElem?_set_self hf]; rfl
  · rw [if_neg e, List.getD_eq_getElem?_getD, List.getElem?_set_ne (fun e2 => e e2.symm), ← List.getD_eq_getElem?_getD]
theorem PsS.set {p : Ps} {n f : Nat} {ys : List (List Nat)} {zs : List Int} (h : PsS p n) (hf : f < p.files.length) (h1 : zs.length = ys.length) (h2 : 1 ≤ ys.length) (h3 : ys.length ≤ n + 2) : PsS ⟨p.files.set f ys, p.grown.set f zs, p.dirs⟩ (n + 1) := by
  refine ⟨by have := h.fl; show (p.files.set f ys).length ≤ _; rw [List.length_set]; omega, by show (p.grown.set f zs).length = (p.files.set f ys).length; rw [List.length_set, List.length_set]; exact h.len, fun g hg => ?_⟩
  have hg' : g < p.files.length := by have : g < (p.files.set f ys).length := hg; rw [List.length_set] at this; exact this
  show ((p.grown.set f zs).getD g []).length = ((p.files.set f ys).getD g []).length ∧ 1 ≤ ((p.files.set f ys).getD g []).length ∧ ((p.files.set f ys).getD g []).length ≤ n + 1 + 1
  rw [getD_setP hf, getD_setP (by rw [h.len]; exact hf)]
  by_cases e : g = f
  · rw [if_pos e, if_pos e]; exact ⟨h1, h2, by omega⟩
  · rw [if_neg e, if_neg e]
    have := h.gl g hg'
    exact ⟨this.1, this.2.1, by have := this.2.2; omega⟩
theorem PsS.push {p : Ps} {n : Nat} {ds : List (List (Nm × Nat))} (h : PsS p n) : PsS ⟨p.files ++ [[[]]], p.grown ++ [[-1]], ds⟩ (n + 1) := by
  have hl := h.len
  have hfl := h.fl
  refine ⟨by simp; omega, by simp [hl], fun g hg => ?_⟩
  have hg' : g < p.files.length + 1 := by simpa using hg
  show ((p.grown ++ [[-1]]).getD g []).length = ((p.files ++ [[[]]]).getD g []).length ∧ 1 ≤ ((p.files ++ [[[]]]).getD g []).length ∧ ((p.files ++ [[[]]]).getD g []).length ≤ n + 1 + 1
  by_cases e : g = p.files.length
  · subst e
    rw [getD_app_eq', ← hl, getD_app_eq']
    simp
  · have h9 : g < p.files.length := by omega
    rw [getD_app_lt' _ _ h9, getD_app_lt' _ _ (by omega)]
    have := h.gl g h9
    exact ⟨this.1, this.2.1, by have := this.2.2; omega⟩
theorem seen_len {f : Fl} (h : f.Ok) : f.seen.length ≤ 70368744177664 := by
  have := h.len f.chg.length
  rw [List.take_length, ← h.eq] at this
  exact this
/-- A change that went well, written down. -/
theorem noteStep {k k' : Dk} {ν : Nat → Nat} {p : Ps} {n G : Nat} {kd at' m : Int} {nm to : ByteArray} {vb vp : Value} {b : List Nat} {w : World} {gp : Nat} {T : Nat → Prop} (h1 : 1 ≤ kd) (h7 : kd ≤ 7) (e : chK k kd nm to m b G = (0, k')) (hr : PsR k ν p) (hs : PsS p n) (hd : k.Dok n) (hd' : k'.Dok (n + 1)) (hp : k.Past) (hG : ¬ k.live G) (hnm : ∀ q ∈ k.L, q.1 ≠ []) (hn : n ≤ 2000000000000) (hb : BytesAt w vb b) (h : PaAt w gp p T) :
    ∃ ν' p', PsR k' ν' p' ∧ PsS p' (n + 1) ∧ Calls Try.prog 9 #[.pointer (some ⟨gp, 0, none⟩), stepV kd nm to at' m vb vp] w (NtPost gp p' T w) := by
  have hok := hs.ok hr hd hp hn
  have hd1 : 1 ≤ p.dirs.length := by have := hr.dlen; omega
  have hdl : p.dirs.length < 2199023255000 := by have := hr.dlen; have := hd.cnt; omega
  have hfl : p.files.length < 2199023255000 := by have := hs.fl; omega
  have hst : ∀ f, f < p.files.length → (p.files.getD f []).length < 2199023255000 := fun f hf => by have := (hs.gl f hf).2.2; omega
  unfold chK at e
  by_cases e1 : kd = 1
  · subst e1
    rw [if_pos rfl] at e
    obtain ⟨a1, a2⟩ := hr.create hd hp hG hnm e
    exact ⟨_, _, a2, hs.push, noteCreate nm to at' m vb vp h hok hd1 a1 hdl hfl⟩
  rw [if_neg e1] at e
  by_cases e2 : kd = 2
  · subst e2
    rw [if_pos rfl] at e
    have e' := e
    obtain ⟨f, a1, a2, a3⟩ := hr.append hd e
    obtain ⟨ab, cb, e9⟩ : ∃ ab cb, vb = .slice ab b.length cb := by
      obtain ⟨ab, cb, e9, -⟩ := hb
      exact ⟨ab, cb, e9⟩
    subst e9
    have hnl : ((p.files.getD f []).getD ((p.files.getD f []).length - 1) []).length + b.length ≤ 70368744177664 := by
      obtain ⟨H, hl, e8⟩ := append_zero e'
      obtain ⟨c0, c1, c2, c3, c4, c5⟩ := hr.leads hd hl
      have e10 : f = ν H := by rw [a1] at c0; omega
      subst e10
      rw [c2, sts_last c5]
      have hlv : k'.live H := by rw [e8]; exact c4
      have h9 := seen_len (hd'.ok.fok H hlv).1
      rw [e8] at h9
      have e11 : (((k.spent.setFile H ((k.file H).add b)).uses (k.used + b.length)).file H) = (k.file H).add b := upd_same _ _ _
      rw [e11] at h9
      simpa [Fl.add] using h9
    exact ⟨_, _, a3, hs.set a2 (by rw [List.length_append, List.length_append, (hs.gl f a2).1]; rfl) (by rw [List.length_append, List.length_singleton]; omega) (by have := (hs.gl f a2).2.2; rw [List.length_append, List.length_singleton]; omega), noteAppend nm to at' m ab cb vp b h hok hd1 f a1 a2 hb hnl (hst f a2)⟩
  rw [if_neg e2] at e
  by_cases e3 : kd = 3
  · subst e3
    rw [if_pos rfl] at e
    obtain ⟨f, a1, a2, a3, a4, a5⟩ := hr.trunc hd e
    obtain ⟨n0, rfl⟩ : ∃ n0 : Nat, m = (n0 : Int) := ⟨m.toNat, by omega⟩
    rw [Int.toNat_natCast] at a4 a5
    have hnl : n0 ≤ 70368744177664 := by
      obtain ⟨H, hl, -, b2, -⟩ := trunc_zero e
      have hlv : k.live H := hd.ok.refs _ (look_mem hl)
      have := seen_len (hd.ok.fok H hlv).1
      omega
    exact ⟨_, _, a5, hs.set a2 (by rw [List.length_append, List.length_append, (hs.gl f a2).1]; rfl) (by rw [List.length_append, List.length_singleton]; omega) (by have := (hs.gl f a2).2.2; rw [List.length_append, List.length_singleton]; omega), noteTrunc nm to at' n0 vb vp h hok hd1 f a1 a2 a4 hnl (hst f a2)⟩
  rw [if_neg e3] at e
  by_cases e4 : kd = 4
  · subst e4
    rw [if_pos rfl] at e
    obtain ⟨f, a1, a2, a3⟩ := hr.sync hd e
    exact ⟨_, _, a3, hs.set a2 rfl (by simp) (by simp), noteSync nm to at' m vb vp h hok hd1 f a1 a2⟩
  rw [if_neg e4] at e
  by_cases e5 : kd = 5
  · subst e5
    rw [if_pos rfl] at e
    exact ⟨_, _, hr.syncDir hd e, hs.more, noteSyncDir nm to at' m vb vp h hok hd1⟩
  rw [if_neg e5] at e
  by_cases e6 : kd = 6
  · subst e6
    rw [if_pos rfl] at e
    obtain ⟨f, a1, a2, a3⟩ := hr.rename hd e
    exact ⟨_, _, a3, hs.more, noteRename nm to at' m vb vp h hok hd1 f a1 a2 hdl⟩
  rw [if_neg e6] at e
  have e7 : kd = 7 := by omega
  subst e7
  obtain ⟨f, a1, a2, a3⟩ := hr.remove hd e
  exact ⟨_, _, a3, hs.more, noteRemove nm to at' m vb vp h hok hd1 f a1 a2 hdl⟩
end Go.Proofs.Ytgpmhflndcppeaa

/-! The law on the past: names are never empty; the beginning. -/
namespace Go.Proofs.Ytgpmhflndcppeaa
open Go.RowKit Go.Maps Plain
set_option linter.unusedVariables false
set_option linter.unusedSimpArgs false

def Dk.Nme (k : Dk) : Prop := ∀ q ∈ k.L, q.1 ≠ []
set_option maxHeartbeats 2000000 in
theorem chK_L (k : Dk) (kd : Int) (nm to : ByteArray) (m : Int) (b : List Nat) (G : Nat) : (chK k kd nm to m b G).1 = 0 ∨ (chK k kd nm to m b G).2.L = k.L := by
  unfold chK createK appendK truncK syncK syncDirK renameK removeK
  repeat' split
  all_goals first | exact .inl rfl | exact .inr rfl
theorem nmL_ne {l : Nm} (h : nmL l = true) : l ≠ [] := by
  rintro rfl
  simp [nmL] at h
theorem Dk.Nme.step {k : Dk} {kd m : Int} {nm to : ByteArray} {b : List Nat} {G : Nat} (h : k.Nme) : (chK k kd nm to m b G).2.Nme := by
  rcases chK_L k kd nm to m b G with e | e
  · obtain ⟨k', e2⟩ : ∃ k', chK k kd nm to m b G = (0, k') := ⟨(chK k kd nm to m b G).2, Prod.ext e rfl⟩
    rw [e2]
    show k'.Nme
    unfold chK at e2
    split at e2
    · obtain ⟨-, h2, rfl⟩ := create_zero e2
      intro q hq
      have hq' : q ∈ put k.L nm.data.toList G := hq
      rcases List.mem_cons.mp ((put_permP _ _ _).mem_iff.mp hq') with e3 | e3
      · rw [e3]; exact nmL_ne h2
      · exact h q (List.mem_filter.mp e3).1
    split at e2
    · obtain ⟨H, -, rfl⟩ := append_zero e2
      exact h
    split at e2
    · obtain ⟨H, -, -, -, rfl⟩ := trunc_zero e2
      exact h
    split at e2
    · obtain ⟨H, -, rfl⟩ := sync_zero e2
      exact h
    split at e2
    · have := syncDir_zero e2
      subst this
      exact h
    split at e2
    · obtain ⟨H, h1, -, h2, rfl⟩ := rename_zero e2
      intro q hq
      have hq' : q ∈ DC.on k.L (DC.mv nm.data.toList to.data.toList) := hq
      rw [DC.on_mv, h1] at hq'
      have hq2 : q ∈ del (put k.L to.data.toList H) nm.data.toList := hq'
      rcases List.mem_cons.mp ((put_permP _ _ _).mem_iff.mp (List.mem_filter.mp hq2).1) with e3 | e3
      · rw [e3]; exact nmL_ne h2
      · exact h q (List.mem_filter.mp e3).1
    · obtain ⟨H, -, rfl⟩ := remove_zero e2
      intro q hq
      have hq' : q ∈ del k.L nm.data.toList := hq
      exact h q (List.mem_filter.mp hq').1
  · intro q hq
    rw [e] at hq
    exact h q hq
theorem PsR.zero (q : Int) : PsR (Dk.fresh q) (fun _ => 0) ⟨[], [], [[]]⟩ := by
  refine ⟨fun G H h => h.elim, rfl, fun G h => h.elim, rfl, fun j hj => ?_, fun j hj => ?_⟩
  all_goals
    have : j = 0 := by simpa [Dk.fresh] using hj
    subst this
    simp [Dk.fresh, dst]
theorem PsS.zero : PsS ⟨[], [], [[]]⟩ 0 := ⟨by simp, rfl, fun f hf => by simp at hf⟩
theorem fresh_past (q : Int) : (Dk.fresh q).Past := ⟨fun p hp => by simp [Dk.fresh] at hp, fun nm g hg => by simp [Dk.fresh] at hg, by simp [Dk.fresh]⟩
theorem fresh_nme (q : Int) : (Dk.fresh q).Nme := fun p hp => by simp [Dk.fresh] at hp
end Go.Proofs.Ytgpmhflndcppeaa

/-! A changing step, over a disk that has nothing to do with some blocks. -/
namespace Go.Proofs.Ytgpmhflndcppeaa
open Go.RowKit Go.Maps Plain
set_option linter.unusedVariables false
set_option linter.unusedSimpArgs false

abbrev ChPostP (P : Nat → Prop) (W : World) (d : Nat) (f : Nat → Int × Dk) (w1 : World) : Ending → World → Prop := fun e w2 => ∃ G, w1.heap.size ≤ G ∧ e = .returned (.tuple #[.int .i64 (f G).1, .bool true]) ∧ DskP P W d (f G).2 w2

set_option maxHeartbeats 1000000 in
set_option maxRecDepth 1000000 in
theorem changeCreateP {P : Nat → Prop} {W w : World} {d n : Nat} {k : Dk} (nm to : ByteArray) (at' m : Int) (vb vp : Value) (h : DskP P W d k w) (hs : nm.size ≤ maxLen) (hk : k.Dok n) (hn : n ≤ 4398046511103) :
    Calls Try.prog 8 #[.pointer (some ⟨d, 0, none⟩), .agg #[.int .i64 1, .string nm, .string to, .int .i64 at', .int .i64 m, vb, vp]] w (ChPostP P W d (createK k nm) w) := by
  have HC : Hid (∀ w1, Below w.heap.size w w1 → Calls Try.prog 12 #[.pointer (some ⟨d, 0, none⟩), .string nm] w1 fun e w2 => ∃ G, w1.heap.size ≤ G ∧ PPost P W d (createK k nm G) e w2) := fun w1 hb => createP (h.later hb) hs hk hn
  clear h hk
  go_enter Try.func8, Try.ntmps8
  go_wp2_with fail
  refine (HC.out _ ((Below.refl _ _).alloc (Nat.le_refl _) _)).mono ?_
  rintro e w1 ⟨G, hG, rfl, h1⟩
  have HP : Hid (ChPostP P W d (createK k nm) w (.returned (.tuple #[.int .i64 (createK k nm G).1, .bool true])) w1) := ⟨G, by simp at hG; omega, rfl, h1⟩
  clear h1
  generalize (createK k nm G).1 = z at *
  go_wp2
  go_ret2
  exact HP.out

set_option maxHeartbeats 1000000 in
set_option maxRecDepth 1000000 in
theorem changeTruncP {P : Nat → Prop} {W w : World} {d n : Nat} {k : Dk} (nm to : ByteArray) (at' m : Int) (vb vp : Value) (h : DskP P W d k w) (hs : nm.size ≤ maxLen) (hm : I64 m) (hk : k.Dok n) (hu : k.Uok) (hn : n ≤ 4398046511103) :
    Calls Try.prog 8 #[.pointer (some ⟨d, 0, none⟩), .agg #[.int .i64 3, .string nm, .string to, .int .i64 at', .int .i64 m, vb, vp]] w (ChPostP P W d (fun _ => truncK k nm m) w) := by
  have HC : Hid (∀ w1, Below w.heap.size w w1 → Calls Try.prog 25 #[.pointer (some ⟨d, 0, none⟩), .string nm, .int .i64 m] w1 (PPost P W d (truncK k nm m))) := fun w1 hb => truncP (h.later hb) hs hm hk hu hn
  clear h hk hu
  go_enter Try.func8, Try.ntmps8
  go_wp2_with fail
  refine (HC.out _ ((Below.refl _ _).alloc (Nat.le_refl _) _)).mono ?_
  rintro e w1 ⟨rfl, h1⟩
  have HP : Hid (ChPostP P W d (fun _ => truncK k nm m) w (.returned (.tuple #[.int .i64 (truncK k nm m).1, .bool true])) w1) := ⟨_, Nat.le_refl _, rfl, h1⟩
  clear h1
  generalize (truncK k nm m).1 = z at *
  go_wp2
  go_ret2
  exact HP.out

set_option maxHeartbeats 1000000 in
set_option maxRecDepth 1000000 in
theorem changeSyncP {P : Nat → Prop} {W w : World} {d n : Nat} {k : Dk} (nm to : ByteArray) (at' m : Int) (vb vp : Value) (h : DskP P W d k w) (hs : nm.size ≤ maxLen) (hk : k.Dok n) (hn : n ≤ 4398046511103) :
    Calls Try.prog 8 #[.pointer (some ⟨d, 0, none⟩), .agg #[.int .i64 4, .string nm, .string to, .int .i64 at', .int .i64 m, vb, vp]] w (ChPostP P W d (fun _ => syncK k nm) w) := by
  have HC : Hid (∀ w1, Below w.heap.size w w1 → Calls Try.prog 26 #[.pointer (some ⟨d, 0, none⟩), .string nm] w1 (PPost P W d (syncK k nm))) := fun w1 hb => syncP (h.later hb) hs hk hn
  clear h hk
  go_enter Try.func8, Try.ntmps8
  go_wp2_with fail
  refine (HC.out _ ((Below.refl _ _).alloc (Nat.le_refl _) _)).mono ?_
  rintro e w1 ⟨rfl, h1⟩
  have HP : Hid (ChPostP P W d (fun _ => syncK k nm) w (.returned (.tuple #[.int .i64 (syncK k nm).1, .bool true])) w1) := ⟨_, Nat.le_refl _, rfl, h1⟩
  clear h1
  generalize (syncK k nm).1 = z at *
  go_wp2
  go_ret2
  exact HP.out

set_option maxHeartbeats 1000000 in
set_option maxRecDepth 1000000 in
theorem changeSyncDirP {P : Nat → Prop} {W w : World} {d n : Nat} {k : Dk} (nm to : ByteArray) (at' m : Int) (vb vp : Value) (h : DskP P W d k w) (hk : k.Dok n) (hn : n ≤ 4398046511103) :
    Calls Try.prog 8 #[.pointer (some ⟨d, 0, none⟩), .agg #[.int .i64 5, .string nm, .string to, .int .i64 at', .int .i64 m, vb, vp]] w (ChPostP P W d (fun _ => syncDirK k) w) := by
  have HC : Hid (∀ w1, Below w.heap.size w w1 → Calls Try.prog 27 #[.pointer (some ⟨d, 0, none⟩)] w1 (PPost P W d (syncDirK k))) := fun w1 hb => syncDirP (h.later hb) hk hn
  clear h hk
  go_enter Try.func8, Try.ntmps8
  go_wp2_with fail
  refine (HC.out _ ((Below.refl _ _).alloc (Nat.le_refl _) _)).mono ?_
  rintro e w1 ⟨rfl, h1⟩
  have HP : Hid (ChPostP P W d (fun _ => syncDirK k) w (.returned (.tuple #[.int .i64 (syncDirK k).1, .bool true])) w1) := ⟨_, Nat.le_refl _, rfl, h1⟩
  clear h1
  generalize (syncDirK k).1 = z at *
  go_wp2
  go_ret2
  exact HP.out

set_option maxHeartbeats 1000000 in
set_option maxRecDepth 1000000 in
theorem changeRenameP {P : Nat → Prop} {W w : World} {d n : Nat} {k : Dk} (nm to : ByteArray) (at' m : Int) (vb vp : Value) (h : DskP P W d k w) (hs : nm.size ≤ maxLen) (ht : to.size ≤ maxLen) (hk : k.Dok n) (hu : k.Uok) (hn : n ≤ 4398046511103) :
    Calls Try.prog 8 #[.pointer (some ⟨d, 0, none⟩), .agg #[.int .i64 6, .string nm, .string to, .int .i64 at', .int .i64 m, vb, vp]] w (ChPostP P W d (fun _ => renameK k nm to) w) := by
  have HC : Hid (∀ w1, Below w.heap.size w w1 → Calls Try.prog 28 #[.pointer (some ⟨d, 0, none⟩), .string nm, .string to] w1 (PPost P W d (renameK k nm to))) := fun w1 hb => renameP (h.later hb) hs ht hk hu hn
  clear h hk hu
  go_enter Try.func8, Try.ntmps8
  go_wp2_with fail
  refine (HC.out _ ((Below.refl _ _).alloc (Nat.le_refl _) _)).mono ?_
  rintro e w1 ⟨rfl, h1⟩
  have HP : Hid (ChPostP P W d (fun _ => renameK k nm to) w (.returned (.tuple #[.int .i64 (renameK k nm to).1, .bool true])) w1) := ⟨_, Nat.le_refl _, rfl, h1⟩
  clear h1
  generalize (renameK k nm to).1 = z at *
  go_wp2
  go_ret2
  exact HP.out

set_option maxHeartbeats 1000000 in
set_option maxRecDepth 1000000 in
theorem changeRemoveP {P : Nat → Prop} {W w : World} {d n : Nat} {k : Dk} (nm to : ByteArray) (at' m : Int) (vb vp : Value) (h : DskP P W d k w) (hs : nm.size ≤ maxLen) (hk : k.Dok n) (hu : k.Uok) (hn : n ≤ 4398046511103) :
    Calls Try.prog 8 #[.pointer (some ⟨d, 0, none⟩), .agg #[.int .i64 7, .string nm, .string to, .int .i64 at', .int .i64 m, vb, vp]] w (ChPostP P W d (fun _ => removeK k nm) w) := by
  have HC : Hid (∀ w1, Below w.heap.size w w1 → Calls Try.prog 29 #[.pointer (some ⟨d, 0, none⟩), .string nm] w1 (PPost P W d (removeK k nm))) := fun w1 hb => removeP (h.later hb) hs hk hu hn
  clear h hk hu
  go_enter Try.func8, Try.ntmps8
  go_wp2_with fail
  refine (HC.out _ ((Below.refl _ _).alloc (Nat.le_refl _) _)).mono ?_
  rintro e w1 ⟨rfl, h1⟩
  have HP : Hid (ChPostP P W d (fun _ => removeK k nm) w (.returned (.tuple #[.int .i64 (removeK k nm).1, .bool true])) w1) := ⟨_, Nat.le_refl _, rfl, h1⟩
  clear h1
  generalize (removeK k nm).1 = z at *
  go_wp2
  go_ret2
  exact HP.out
set_option maxHeartbeats 4000000 in
set_option maxRecDepth 1000000 in
theorem changeAppendP {P : Nat → Prop} {W w : World} {d n : Nat} {k : Dk} (nm to : ByteArray) (at' m : Int) (vb vp : Value) (l : List Nat) (h : DskP P W d k w) (hs : nm.size ≤ maxLen) (hb : BytesAt w vb l) (hw : ∀ w', Keep P W w' → BytesAt w' vb l) (hl : l.length ≤ 140737488351232) (hk : k.Dok n) (hu : k.Uok) (hn : n ≤ 4398046511103) :
    Calls Try.prog 8 #[.pointer (some ⟨d, 0, none⟩), .agg #[.int .i64 2, .string nm, .string to, .int .i64 at', .int .i64 m, vb, vp]] w (ChPostP P W d (fun _ => appendK k nm l) w) := by
  obtain ⟨h1, S, h2, h3⟩ := h
  have hS := h2.rng
  have HB : Hid (BytesAt w vb l) := hb
  have HWW : Hid (∀ w', Keep P W w' → BytesAt w' vb l) := hw
  have H0 : Hid (Keep P W w ∧ DiskAt w d k S ∧ (∀ x, S x → ¬ P x) ∧ ∀ x, S x → x < w.heap.size) := ⟨h1, h2, h3, hS⟩
  have HAP : Hid (∀ (w1 : World) (g cap : Nat), Below w.heap.size w w1 → w.heap.size ≤ g → Own w1 (.slice (some ⟨g, 0, none⟩) (l.length + 8) cap) (l ++ marks 8) (some g) → Calls Try.prog 13 #[.pointer (some ⟨d, 0, none⟩), .string nm, .slice (some ⟨g, 0, none⟩) l.length cap] w1 (OpPost d (appendK k nm l) S w1)) := fun w1 g cap hb1 hg ho =>
    appendOf d k n S nm hs _ l w1 (h2.later hb1) hk.ok hu hn (fun w' hc => BytesAt.head (ho.apart hc (fun e => by have := hS g e; omega)))
  have hW0 := h1.size
  obtain ⟨R, hR⟩ : ∃ R, appendK k nm l = R := ⟨_, rfl⟩
  rw [hR] at HAP
  rw [show (fun _ : Nat => appendK k nm l) = fun _ => R by rw [hR]]
  clear h1 h2 h3 hS hb hw hk hu hR
  go_enter Try.func8, Try.ntmps8
  go_wp2_with fail
  refine (roomy _ l _ (HB.out.later ((Below.refl _ _).alloc (Nat.le_refl _) _)) hl).mono ?_
  rintro e w1 ⟨g, cap, rfl, ho, hg, hb1⟩
  have HO : Hid (Own w1 (.slice (some ⟨g, 0, none⟩) (l.length + 8) cap) (l ++ marks 8) (some g)) := ho
  have hgw : w.heap.size + 1 ≤ g := by simpa using hg
  have HB1 : Hid (Below (w.heap.size + 1) (w.alloc (.cells #[.int .i64 2, .string nm, .string to, .int .i64 at', .int .i64 m, vb, vp] 31)) w1) := by unfold Hid; simpa using hb1
  have HBL : Hid (Below w.heap.size w w1) := ((Below.refl _ _).alloc (Nat.le_refl _) _).trans (HB1.out.mono (by omega))
  clear ho hg hb1
  have c1 : w1.cell? ⟨w.heap.size, 1, none⟩ = some (.string nm) := by
    rw [HB1.out.cell (p := ⟨_, _, none⟩) (by simp)]; simp
  have c5 : w1.cell? ⟨w.heap.size, 5, none⟩ = some vb := by
    rw [HB1.out.cell (p := ⟨_, _, none⟩) (by simp)]; simp
  have hs1 := HB1.out.size
  go_wp2_with fail
  refine (HAP.out w1 g cap HBL.out (by omega) HO.out).mono ?_
  rintro e w2 ⟨rfl, hd2, hc2⟩
  have hs2 := hc2.size
  have hglt : g < w1.heap.size := HO.out.lt
  have hnS : ∀ x, w.heap.size ≤ x → ¬ S x := fun x hx e => by have := H0.out.2.2.2 x e; omega
  have HD2 : Hid (DiskAt w2 d R.2 (Ext S w1 w2) ∧ (∀ x, Ext S w1 w2 x → ¬ P x) ∧ ¬ Ext S w1 w2 g) := by
    refine ⟨hd2, DskP.ext (H0.out.1.later HBL.out) H0.out.2.2.1, fun hx => ?_⟩
    · rcases hx with hx | hx
      · exact hnS g (by omega) hx
      · omega
  have HBB : Hid (Keep P W w2) := (H0.out.1.later HBL.out).chg hc2 H0.out.2.2.1
  have d5 : w2.cell? ⟨w.heap.size, 5, none⟩ = some vb := by
    rw [World.cell?_of_block (w := w1) (a := ⟨w.heap.size, 5, none⟩) (hc2.block w.heap.size (by simp at hs1; omega) (hnS _ (Nat.le_refl _)))]; exact c5
  have HO2 : Hid (Own w2 (.slice (some ⟨g, 0, none⟩) (l.length + 8) cap) (l ++ marks 8) (some g)) := HO.out.apart hc2 (hnS g (by omega))
  clear c1 c5 HO HB1 hs1 hd2 hc2 hnS HAP
  go_wp2_with fail
  refine (kept g cap l l vb w2 (HWW.out w2 HBB.out) rfl HO2.out).mono ?_
  rintro e w3 ⟨rfl, q, rfl⟩
  obtain ⟨hby, hr⟩ := HO2.out
  rcases hr with ⟨e, _⟩ | ⟨g', cap', e, e2, hg, h1, h2, h3, h4, h5⟩
  · simp at e
  simp at e; subst e
  simp only [Value.slice.injEq, true_and] at e2
  obtain ⟨-, rfl⟩ := e2
  have hc8 : l.length + 8 ≤ cap := by simp [marks_len] at h1; omega
  have H3 : Hid (∀ j, j < cap → w2.frozen? ⟨g, j, none⟩ = false) := h3
  have H4 : Hid (∀ j, j < cap → (w2.cell? ⟨g, j, none⟩).isSome = true) := h4
  unfold maxLen at h2
  clear hby h1 h3 h4 h5 HO2 hg d5
  simp only [decide_true]
  go_wp2
  go_loopw [9] (fun i wr => ∃ kk : Nat, kk ≤ l.length ∧ i = .int .i64 kk ∧ Keep P W wr ∧ DiskAt wr d R.2 (Ext S w1 w2) ∧ (∀ j, wr.frozen? ⟨g, j, none⟩ = w2.frozen? ⟨g, j, none⟩) ∧ (∀ j, j < cap → (wr.cell? ⟨g, j, none⟩).isSome = true)) (fun i _ => l.length - (intOf i).toNat)
  case atStart => exact ⟨0, by omega, rfl, HBB.out.later (below_drewN' w2 q), HD2.out.1.later (below_drewN' w2 q), fun _ => rfl, H4.out⟩
  case round =>
    obtain ⟨kk, hkk, rfl, hbl, hdd, hfr, hsome⟩ := hrel
    by_cases hlt : kk < l.length
    · obtain ⟨old, hold⟩ := Option.isSome_iff_exists.mp (hsome kk (by omega))
      have hfz : wr.frozen? ⟨g, kk, none⟩ = false := by rw [hfr]; exact H3.out kk (by omega)
      have HREL : Hid (Keep P W (wr.setCell ⟨g, kk, none⟩ (.int .u8 77)) ∧ DiskAt (wr.setCell ⟨g, kk, none⟩ (.int .u8 77)) d R.2 (Ext S w1 w2) ∧ (∀ j, (wr.setCell ⟨g, kk, none⟩ (.int .u8 77)).frozen? ⟨g, j, none⟩ = w2.frozen? ⟨g, j, none⟩) ∧
          (∀ j, j < cap → ((wr.setCell ⟨g, kk, none⟩ (.int .u8 77)).cell? ⟨g, j, none⟩).isSome = true)) := by
        refine ⟨hbl.chg (S := fun x => x = g) ((Chg.refl _ _).grown (grow_set wr g kk (.int .u8 77)) (fun g' e => by simp at e; exact .inl e.symm)) (fun x hx hp => by have := hbl.lt x hp; subst hx; omega), hdd.frame (by simp) (fun x hx => (grow_set wr g kk (.int .u8 77)).block x (hdd.rng x hx) (fun e => by simp at e; subst e; exact HD2.out.2.2 hx)), fun j => ?_, fun j hj => ?_⟩
        · rw [← hfr j]; exact World.frozen?_setCells g [.int .u8 77] kk wr _
        · exact isSome_setCells g [.int .u8 77] kk wr _ (hsome j hj)
      clear hbl hfr hsome hdd
      go_wp2
      go_roundw
      case rel => exact ⟨kk + 1, by omega, by go_num, HREL.out⟩
      case measure => simp [intOf]; omega
    · have HP : Hid (ChPostP P W d (fun _ => R) w (.returned (.tuple #[.int .i64 R.1, .bool true])) wr) := ⟨_, Nat.le_refl _, rfl, hbl, _, hdd, HD2.out.2.1⟩
      clear hbl hfr hsome hdd
      go_wp2
      go_ret2
      exact HP.out

theorem changeAllP {P : Nat → Prop} {W w : World} {d n : Nat} {k : Dk} (kd : Int) (nm to : ByteArray) (at' m : Int) (vb vp : Value) (l : List Nat) (hk1 : 1 ≤ kd) (hk7 : kd ≤ 7) (h : DskP P W d k w) (hs : nm.size ≤ maxLen) (ht : to.size ≤ maxLen) (hm : I64 m) (hw : ∀ w', Keep P W w' → BytesAt w' vb l) (hl : l.length ≤ 140737488351232) (hk : k.Dok n) (hu : k.Uok) (hn : n ≤ 4398046511103) :
    Calls Try.prog 8 #[.pointer (some ⟨d, 0, none⟩), .agg #[.int .i64 kd, .string nm, .string to, .int .i64 at', .int .i64 m, vb, vp]] w (ChPostP P W d (chK k kd nm to m l) w) := by
  have : kd = 1 ∨ kd = 2 ∨ kd = 3 ∨ kd = 4 ∨ kd = 5 ∨ kd = 6 ∨ kd = 7 := by omega
  rcases this with rfl | rfl | rfl | rfl | rfl | rfl | rfl
  · exact changeCreateP nm to at' m vb vp h hs hk hn
  · exact changeAppendP nm to at' m vb vp l h hs (hw _ h.1) hw hl hk hu hn
  · exact changeTruncP nm to at' m vb vp h hs hm hk hu hn
  · exact changeSyncP nm to at' m vb vp h hs hk hn
  · exact changeSyncDirP nm to at' m vb vp h hk hn
  · exact changeRenameP nm to at' m vb vp h hs ht hk hu hn
  · exact changeRemoveP nm to at' m vb vp h hs hk hu hn
end Go.Proofs.Ytgpmhflndcppeaa

/-! The law on the past: the disk and what is kept of it, side by side. -/
namespace Go.Proofs.Ytgpmhflndcppeaa
open Go.RowKit Go.Maps Plain
set_option linter.unusedVariables false
set_option linter.unusedSimpArgs false

/-- A disk and its past, both newer than world W, apart. -/
def PdAt (W : World) (d gp : Nat) (k : Dk) (p : Ps) (w : World) : Prop := Below W.heap.size W w ∧ ∃ S T, DiskAt w d k S ∧ PaAt w gp p T ∧ (∀ x, S x → ¬ T x) ∧ (∀ x, S x → W.heap.size ≤ x) ∧ ∀ x, T x → W.heap.size ≤ x ∧ x < w.heap.size
theorem PaAt.frame {w w' : World} {gp : Nat} {p : Ps} {T : Nat → Prop} (h : PaAt w gp p T) (hs : w.heap.size ≤ w'.heap.size) (hb : ∀ x, T x → w'.heap[x]? = w.heap[x]?) : PaAt w' gp p T := by
  obtain ⟨B, vF, vG, vD, rF, rG, rD, fv, gv, dv, rf, rg, sv, tv, hP, hT⟩ := h
  exact ⟨B, vF, vG, vD, rF, rG, rD, fv, gv, dv, rf, rg, sv, tv, hP.kept hs (fun g hg => hb g (hT g hg)), hT⟩
theorem PdAt.later {W w w' : World} {d gp : Nat} {k : Dk} {p : Ps} (h : PdAt W d gp k p w) (hb : Below w.heap.size w w') : PdAt W d gp k p w' := by
  obtain ⟨h0, S, T, h1, h2, h3, h4, h5⟩ := h
  exact ⟨h0.trans (hb.mono h0.size), S, T, h1.later hb, h2.frame hb.size (fun x hx => hb.block x (h5 x hx).2), h3, h4, fun x hx => ⟨(h5 x hx).1, Nat.lt_of_lt_of_le (h5 x hx).2 hb.size⟩⟩
/-- What an operation on the disk keeps alone. -/
def pdP (W : World) (T : Nat → Prop) (x : Nat) : Prop := x < W.heap.size ∨ T x
theorem PdAt.disk {W w : World} {d gp : Nat} {k : Dk} {p : Ps} (h : PdAt W d gp k p w) : ∃ T, DskP (pdP W T) w d k w ∧ ∀ (k' : Dk) (w' : World), DskP (pdP W T) w d k' w' → PdAt W d gp k' p w' := by
  obtain ⟨h0, S, T, h1, h2, h3, h4, h5⟩ := h
  have hs := h0.size
  refine ⟨T, ⟨Keep.refl (fun x hx => hx.elim (fun e => by omega) (fun e => (h5 x e).2)), S, h1, fun x hx hp => hp.elim (fun e => by have := h4 x hx; omega) (h3 x hx)⟩, fun k' w' hk => ?_⟩
  obtain ⟨g1, S', g2, g3⟩ := hk
  refine ⟨⟨g1.os.trans h0.os, g1.tape.trans h0.tape, g1.output.trans h0.output, Nat.le_trans hs g1.size, fun x hx => (g1.block x (.inl hx)).trans (h0.block x hx)⟩, S', T, g2, h2.frame g1.size (fun x hx => g1.block x (.inr hx)), fun x hx ht => g3 x hx (.inr ht), fun x hx => ?_, fun x hx => ⟨(h5 x hx).1, Nat.lt_of_lt_of_le (h5 x hx).2 g1.size⟩⟩
  exact Nat.le_of_not_lt fun e => g3 x hx (.inl e)
theorem PdAt.past {W w : World} {d gp : Nat} {k : Dk} {p : Ps} (h : PdAt W d gp k p w) : ∃ T, PaAt w gp p T ∧ ∀ (p' : Ps) (w' : World), (PaAt w' gp p' (Ext T w w') ∧ Chg T w w') → PdAt W d gp k p' w' := by
  obtain ⟨h0, S, T, h1, h2, h3, h4, h5⟩ := h
  have hs := h0.size
  refine ⟨T, h2, fun p' w' hk => ?_⟩
  obtain ⟨g1, g2⟩ := hk
  have hs2 := g2.size
  have hsl : ∀ x, S x → x < w.heap.size := h1.rng
  refine ⟨⟨g2.os.trans h0.os, g2.tape.trans h0.tape, g2.output.trans h0.output, by omega, fun x hx => (g2.block x (by omega) (fun e => by have := (h5 x e).1; omega)).trans (h0.block x hx)⟩, S, Ext T w w', h1.apart g2 h3, g1, fun x hx ht => ?_, h4, fun x hx => ?_⟩
  · rcases ht with e | e
    · exact h3 x hx e
    · have := hsl x hx; have := e.1; omega
  · rcases hx with e | e
    · exact ⟨(h5 x e).1, by have := (h5 x e).2; omega⟩
    · exact ⟨by have := e.1; omega, e.2⟩
end Go.Proofs.Ytgpmhflndcppeaa
