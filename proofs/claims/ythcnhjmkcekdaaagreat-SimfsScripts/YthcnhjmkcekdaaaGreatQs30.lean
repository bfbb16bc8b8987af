import Derived.Test.YthcnhjmkcekdaaaGreatQs29
namespace Go.Proofs.YthcnhjmkcekdaaaGreat
open Go.RowKit Go.Maps Plain
set_option linter.unusedVariables false
set_option linter.unusedSimpArgs false
def Dk.Nmd (k : Dk) : Prop := ∀ p ∈ k.L, nmL p.1 = true
theorem on_names {L : Dir} {c : DC} {p : Nm × Nat} (h : p ∈ DC.on L c) : p.1 ∈ L.map (·.1) ∨ (∃ g, c = DC.mk p.1 g) ∨ ∃ a, c = DC.mv a p.1 := by
  cases c using DC.elim with
  | mk k g =>
    rw [DC.on_mk] at h
    rcases mem_put h with rfl | h
    · exact .inr (.inl ⟨_, rfl⟩)
    · exact .inl (List.mem_map_of_mem h)
  | mv a b =>
    rw [DC.on_mv] at h
    cases e : look L a with
    | none => rw [e] at h; exact .inl (List.mem_map_of_mem h)
    | some g =>
      rw [e] at h
      rcases mem_put (mem_del h) with rfl | h
      · exact .inr (.inr ⟨_, rfl⟩)
      · exact .inl (List.mem_map_of_mem h)
  | rm k =>
    rw [DC.on_rm] at h
    exact .inl (List.mem_map_of_mem (mem_del h))
theorem rdy_names {dead : Bool} {ns : List ByteArray} (h : ¬ rdy dead ns ≠ 0) : nmsB ns = true := by
  unfold rdy at h
  cases dead with
  | true => simp at h
  | false =>
    cases e : nmsB ns with
    | true => rfl
    | false => rw [e] at h; simp at h
theorem Dk.Nmd.did {k : Dk} {c : DC} (h : k.Nmd) (h1 : ∀ s g, c = DC.mk s g → nmL s = true) (h2 : ∀ a s, c = DC.mv a s → nmL s = true) : (k.did c).Nmd := fun p hp => by
  rcases on_names hp with h3 | ⟨g, h3⟩ | ⟨a, h3⟩
  · obtain ⟨q, hq, e⟩ := List.mem_map.mp h3
    rw [← e]; exact h q hq
  · exact h1 _ _ h3
  · exact h2 _ _ h3
theorem DC.mk_ne_mv {k a b : Nm} {g : Nat} : DC.mk k g ≠ DC.mv a b := fun e => by cases e
theorem DC.mk_ne_rm {k a : Nm} {g : Nat} : DC.mk k g ≠ DC.rm a := fun e => by cases e
theorem DC.mv_ne_rm {k a b : Nm} : DC.mv a b ≠ DC.rm k := fun e => by cases e
theorem Dk.Nmd.chK {k : Dk} {G : Nat} {kd m : Int} {nm to' : ByteArray} {l : List Nat} (h : k.Nmd) : (chK k kd nm to' m l G).2.Nmd := by
  unfold Go.Proofs.YthcnhjmkcekdaaaGreat.chK
  split
  · unfold createK
    split
    · exact h
    rename_i hr
    have hn : nmL nm.data.toList = true := by
      have := rdy_names hr
      simpa [nmsB] using this
    split
    · exact h
    split
    · exact h
    split
    · refine Dk.Nmd.did (k := k.spent.addFile G) h (fun s g e => ?_) (fun a s e => (DC.mk_ne_mv e).elim)
      cases e
      exact hn
    · exact h
  split
  · unfold appendK
    split
    · split
      · exact h
      split
      · split
        · exact h
        · exact h
      · exact h
    · exact h
  split
  · unfold truncK
    split
    · split
      · split
        · exact h
        split
        · exact h
        · exact h
      · exact h
    · exact h
  split
  · unfold syncK
    split
    · split
      · split
        · exact h
        · exact h
      · exact h
    · exact h
  split
  · unfold syncDirK
    split
    · exact h
    split
    · exact h
    · exact h
  split
  · unfold renameK
    split
    · exact h
    rename_i hr
    have hn : nmL to'.data.toList = true := by
      have := rdy_names hr
      simp [nmsB] at this
      exact this.2
    split
    · exact h
    split
    · split
      · refine Dk.Nmd.did (k := k.spent.uses _) h (fun s g e => (DC.mk_ne_mv e.symm).elim) (fun a s e => ?_)
        cases e
        exact hn
      · exact h
    · exact h
  · unfold removeK
    split
    · split
      · exact Dk.Nmd.did (k := k.spent.uses _) h (fun s g e => (DC.mk_ne_rm e.symm).elim) (fun a s e => (DC.mv_ne_rm e.symm).elim)
      · exact h
    · exact h
/-- A file that is there is synced. -/
theorem sync_is {k : Dk} {s : Nm} (ho : k.On) (hn : k.Nmd) (hs : s ∈ nms k.L) : syncK k (str s) = (0, k.spent.setFile (fileOf k.L s) ⟨(k.file (fileOf k.L s)).seen, (k.file (fileOf k.L s)).seen, []⟩) := by
  obtain ⟨g, hg⟩ := look_some (nms_mem.1 hs)
  have hnm : nmL s = true := hn _ (fileOf_mem hs)
  have hf : fileOf k.L s = g := by unfold fileOf; rw [hg]; rfl
  have e1 : (fnd k.dead k.L (str s)).2 = 0 := by
    unfold fnd
    rw [str_list, ho.dead, hnm, hg]; rfl
  unfold syncK
  rw [if_pos e1, str_list, hg, hf]
  show (if k.can = true then _ else _) = _
  rw [if_pos ho.can]
theorem keys_inj {L : Dir} (hf : (L.map (·.1)).Nodup) {s : Nm} {a b : Nat} (hp : (s, a) ∈ L) (hq : (s, b) ∈ L) : a = b := by
  induction L with
  | nil => simp at hp
  | cons x L ih =>
    rw [List.map_cons, List.nodup_cons] at hf
    rcases List.mem_cons.mp hp with rfl | hp2
    · rcases List.mem_cons.mp hq with e | hq2
      · exact (Prod.mk.inj e).2.symm
      · exact (hf.1 (List.mem_map_of_mem (f := (·.1)) hq2)).elim
    · rcases List.mem_cons.mp hq with rfl | hq2
      · exact (hf.1 (List.mem_map_of_mem (f := (·.1)) hp2)).elim
      · exact ih hf.2 hp2 hq2
/-- i of the names have been synced. -/
structure SyI (L : Dir) (i n : Nat) (k : Dk) : Prop where
  dirL : k.L = L
  good : k.Good (n + i)
  past : k.Past
  nmd : k.Nmd
  fin : ∀ j s, j < i → (nms L)[j]? = some s → (k.file (fileOf L s)).chg = []
theorem SyI.start {n : Nat} {k : Dk} (hg : k.Good n) (hp : k.Past) (hn : k.Nmd) : SyI k.L 0 n k := ⟨rfl, hg, hp, hn, fun j s h => by omega⟩
theorem SyI.next {L : Dir} {i n G : Nat} {k : Dk} {s : Nm} (h : SyI L i n k) (hs : (nms L)[i]? = some s) (hG : ¬ k.live G) (hn : n + i ≤ 4398046511102) (hz : (str s).size ≤ maxLen) : (syncK k (str s)).1 = 0 ∧ SyI L (i + 1) n (syncK k (str s)).2 := by
  have hmem : s ∈ nms L := List.mem_of_getElem? hs
  have e := sync_is h.good.on h.nmd (by rw [h.dirL]; exact hmem)
  have hch : chK k 4 (str s) (str s) 0 [] G = syncK k (str s) := rfl
  refine ⟨by rw [e], ?_, ?_, ?_, ?_, ?_⟩
  · rw [e]; exact h.dirL
  · rw [← hch]; exact h.good.chK hz hz hn hG
  · rw [← hch]; exact h.past.chK h.good.dok
  · rw [← hch]; exact h.nmd.chK
  · intro j t hj ht
    rw [e, h.dirL]
    show (upd k.file (fileOf L s) _ (fileOf L t)).chg = []
    unfold upd
    by_cases he : fileOf L t = fileOf L s
    · rw [if_pos he]
    · rw [if_neg he]
      refine h.fin j t ?_ ht
      rcases Nat.lt_or_eq_of_le (Nat.lt_succ_iff.mp hj) with h1 | h1
      · exact h1
      · subst h1
        rw [hs] at ht
        exact (he (by rw [Option.some.inj ht])).elim
/-- Then the directory: nothing is pending. -/
theorem SyI.done {L : Dir} {n G : Nat} {k : Dk} (h : SyI L (nms L).length n k) (hG : ¬ k.live G) (hn : n + (nms L).length ≤ 4398046511102) : (syncDirK k).1 = 0 ∧ (syncDirK k).2.Still ∧ (syncDirK k).2.Good (n + (nms L).length + 1) ∧ (syncDirK k).2.Past ∧ (syncDirK k).2.Nmd := by
  have e : syncDirK k = (0, k.spent.settled) := by
    unfold syncDirK
    rw [h.good.on.dead, h.good.on.can]; rfl
  have hz : (str []).size ≤ maxLen := by decide
  have hch : chK k 5 (str []) (str []) 0 [] G = syncDirK k := rfl
  refine ⟨by rw [e], ?_, ?_, ?_, ?_⟩
  · rw [e]
    refine ⟨rfl, fun p hp => ?_⟩
    have hp' : p ∈ L := h.dirL ▸ hp
    have hk : p.1 ∈ nms L := nms_mem.2 (List.mem_map_of_mem hp')
    obtain ⟨j, hj, ej⟩ := List.getElem_of_mem hk
    have h1 := h.fin j p.1 hj (by rw [List.getElem?_eq_getElem hj, ej])
    have h2 : fileOf L p.1 = p.2 := by
      have hm := fileOf_mem hk
      have hkeys := h.good.sum.keys
      rw [h.dirL] at hkeys
      exact keys_inj hkeys hm hp'
    rw [h2] at h1
    exact h1
  · rw [← hch]; exact h.good.chK hz hz hn hG
  · rw [← hch]; exact h.past.chK h.good.dok
  · rw [← hch]; exact h.nmd.chK
end Go.Proofs.YthcnhjmkcekdaaaGreat

namespace Go.Proofs.YthcnhjmkcekdaaaGreat
open Go.RowKit Go.Maps Plain
set_option linter.unusedVariables false
set_option linter.unusedSimpArgs false
theorem own_slice {w : World} {v : Value} {l : List Nat} {r : Option Nat} (h : Own w v l r) : ∃ a c, v = .slice a l.length c := by
  rcases h.2 with ⟨rfl, rfl, _⟩ | ⟨g, cap, _, rfl, _⟩
  · exact ⟨none, 0, rfl⟩
  · exact ⟨_, _, rfl⟩
def LdPost (l : List Nat) (w : World) (e : Ending) (w' : World) : Prop := ∃ T, e = .returned (.pointer (some ⟨w.heap.size, 0, none⟩)) ∧ FileAt w' w.heap.size ⟨l, l, []⟩ T ∧ (∀ x, T x → w.heap.size ≤ x) ∧ Below w.heap.size w w'
theorem loaded_made {w w1 w2 : World} {l : List Nat} {v1 v2 : Value} {r1 r2 : Option Nat} (h1 : Own w1 v1 l r1) (hb1 : Below (w.heap.size + 1) (w.alloc emptyF) w1) (hr1 : ∀ g, r1 = some g → w.heap.size + 1 ≤ g) (h2 : Own w2 v2 l r2) (hb2 : Below w1.heap.size w1 w2) (hr2 : ∀ g, r2 = some g → w1.heap.size ≤ g) :
    LdPost l w (.returned (.pointer (some ⟨w.heap.size, 0, none⟩))) ((w2.setCell ⟨w.heap.size, 0, none⟩ v1).setCell ⟨w.heap.size, 1, none⟩ v2) := by
  have hg := (grow_set w2 w.heap.size 0 v1)
  have hg2 := grow_set (w2.setCell ⟨w.heap.size, 0, none⟩ v1) w.heap.size 1 v2
  have hsz : ((w2.setCell ⟨w.heap.size, 0, none⟩ v1).setCell ⟨w.heap.size, 1, none⟩ v2).heap.size = w2.heap.size := by simp
  have hs1 : w.heap.size + 1 ≤ w1.heap.size := by have := hb1.size; simpa using this
  have hs2 := hb2.size
  have hB : w2.heap[w.heap.size]? = some (.cells #[.slice none 0 0, .slice none 0 0, .slice none 0 0] 124) := by
    rw [hb2.block _ (by omega), hb1.block _ (by omega)]
    show (w.heap.push emptyF)[w.heap.size]? = _
    simp [emptyF]
  have hC := heap_setCell_same _ w.heap.size 1 _ _ v2 (heap_setCell_same w2 w.heap.size 0 _ _ v1 hB)
  have keep : ∀ x, x < w2.heap.size → x ≠ w.heap.size → ((w2.setCell ⟨w.heap.size, 0, none⟩ v1).setCell ⟨w.heap.size, 1, none⟩ v2).heap[x]? = w2.heap[x]? := fun x hx hn =>
    (hg2.block x (by simpa using hx) (by simpa using hn)).trans (hg.block x hx (by simpa using hn))
  have o1 := h1.later hb2
  refine ⟨fun x => w.heap.size ≤ x ∧ x < w2.heap.size, rfl, ⟨v1, v2, .slice none 0 0, r1, r2, none, [], fun _ => none, ⟨hC, ?_, ?_, ⟨OwnV.nil _, rfl, by simp, by simp⟩, ?_, ?_, by simp, by simp⟩, ?_, ?_⟩, fun x hx => hx.1, ?_⟩
  · exact o1.of_block (by omega) (fun g e => keep g (by subst e; exact o1.lt) (by have := hr1 g e; omega))
  · exact h2.of_block (by omega) (fun g e => keep g (by subst e; exact h2.lt) (by have := hr2 g e; omega))
  · intro g e
    refine ⟨by have := hr1 g e; omega, fun e2 => ?_, by simp, by simp⟩
    have := hr2 g e2
    have h3 : g < w1.heap.size := by subst e; exact h1.lt
    omega
  · intro g e
    exact ⟨by have := hr2 g e; omega, by simp, by simp⟩
  · intro x hx
    rcases hx with rfl | hx | hx | hx | ⟨j, hx⟩
    · exact ⟨by omega, by omega⟩
    · have := hr1 x hx
      have h3 : x < w2.heap.size := by subst hx; exact o1.lt
      exact ⟨by omega, h3⟩
    · have := hr2 x hx
      have h3 : x < w2.heap.size := by subst hx; exact h2.lt
      exact ⟨by omega, h3⟩
    · simp at hx
    · simp at hx
  · intro x hx
    rw [hsz]; exact hx.2
  · have b0 : Below w.heap.size w (w.alloc emptyF) := (Below.refl _ _).alloc (Nat.le_refl _) _
    have b1 : Below w.heap.size w w2 := (b0.trans (hb1.mono (by omega))).trans (hb2.mono (by omega))
    have b2 : Below w.heap.size w2 ((w2.setCell ⟨w.heap.size, 0, none⟩ v1).setCell ⟨w.heap.size, 1, none⟩ v2) :=
      (grow_below hg (by omega) (by simp)).trans (grow_below hg2 (by simp; omega) (by simp))
    exact b1.trans b2
set_option maxHeartbeats 2000000 in
set_option maxRecDepth 1000000 in
theorem loadedOf (w : World) (a : Option Addr) (n c : Nat) (l : List Nat) (h : BytesAt w (.slice a n c) l) (hl : l.length ≤ 140737488355328) :
    Calls Tryz.prog 35 #[.slice a n c] w (LdPost l w) := by
  have HC : Hid (∀ w1, Below w.heap.size w w1 → Calls Tryz.prog 74 #[.slice a n c] w1 fun e w' => ∃ v' r', e = .returned v' ∧ Own w' v' l r' ∧ Below w1.heap.size w1 w' ∧ (∀ g, r' = some g → w1.heap.size ≤ g)) := fun w1 hb => cloneOf _ _ w1 (h.later hb) hl
  have HB0 : Hid (Below w.heap.size w (w.alloc emptyF)) := (Below.refl _ _).alloc (Nat.le_refl _) _
  clear h hl
  go_enter Tryz.func35, Tryz.ntmps35
  go_wp2_with fail
  refine (HC.out _ HB0.out).mono ?_
  rintro e w1 ⟨v1, r1, rfl, o1, b1, q1⟩
  have H1 : Hid (Own w1 v1 l r1 ∧ Below (w.heap.size + 1) (w.alloc emptyF) w1 ∧ ∀ g, r1 = some g → w.heap.size + 1 ≤ g) := ⟨o1, by simpa using b1, by simpa using q1⟩
  have HB1 : Hid (Below w.heap.size w w1) := HB0.out.trans (b1.mono (by simp))
  clear o1 b1 q1
  go_wp2_with fail
  refine (HC.out _ HB1.out).mono ?_
  rintro e w2 ⟨v2, r2, rfl, o2, b2, q2⟩
  have HP := loaded_made H1.out.1 H1.out.2.1 H1.out.2.2 o2 b2 q2
  have HP : Hid (LdPost l w (.returned (.pointer (some ⟨w.heap.size, 0, none⟩))) ((w2.setCell ⟨w.heap.size, 0, none⟩ v1).setCell ⟨w.heap.size, 1, none⟩ v2)) := HP
  obtain ⟨a1, c1, rfl⟩ := own_slice H1.out.1
  obtain ⟨a2, c2, rfl⟩ := own_slice o2
  have hB : w2.heap[w.heap.size]? = some (.cells #[.slice none 0 0, .slice none 0 0, .slice none 0 0] 124) := by
    have hs1 : w.heap.size + 1 ≤ w1.heap.size := by have := H1.out.2.1.size; simpa using this
    rw [b2.block _ (by omega), H1.out.2.1.block _ (by omega)]
    show (w.heap.push emptyF)[w.heap.size]? = _
    simp [emptyF]
  have hc0 : w2.cell? ⟨w.heap.size, 0, none⟩ = some (.slice none 0 0) := by simp [World.cell?, hB]
  have hc1 : w2.cell? ⟨w.heap.size, 1, none⟩ = some (.slice none 0 0) := by simp [World.cell?, hB]
  have hf0 : w2.frozen? ⟨w.heap.size, 0, none⟩ = false := by simp [World.frozen?, hB]
  have hf1 : w2.frozen? ⟨w.heap.size, 1, none⟩ = false := by simp [World.frozen?, hB]
  clear o2 b2 q2 hB
  go_wp2
  go_ret
  exact HP.out
end Go.Proofs.YthcnhjmkcekdaaaGreat

namespace Go.Proofs.YthcnhjmkcekdaaaGreat
open Go.RowKit Go.Maps Plain
set_option linter.unusedVariables false
set_option linter.unusedSimpArgs false
def Dk.addFl (k : Dk) (G : Nat) (f : Fl) : Dk := { k with file := upd k.file G f, live := fun x => k.live x ∨ x = G }
theorem addFlM {w w' : World} {d G : Nat} {k : Dk} {f : Fl} {ms md : Option Nat} {vc : Value} {rc : Option Nat} {Sf : Nat → Nat → Prop} {T : Nat → Prop} (h : DiskM w d k ms md vc rc Sf) (hb : Below w.heap.size w w') (hf : FileAt w' G f T) (hT : ∀ x, T x → w.heap.size ≤ x) (hG : w.heap.size ≤ G) : DiskM w' d (k.addFl G f) ms md vc rc (upd Sf G T) := by
  have h' := h.later hb
  have hd := h.dlt
  refine ⟨h'.cells, h'.seen, h'.dur, h'.chg, fun G1 hG1 => ?_, h'.sepS, h'.sepD, h'.sepC, fun G1 hG1 x hx => ?_, fun G1 G2 h1 h2 hne12 x hx hx2 => ?_⟩
  · by_cases e : G1 = G
    · subst e
      show FileAt _ _ (upd k.file _ _ _) (upd Sf _ _ _)
      rw [upd_same, upd_same]
      exact hf
    · show FileAt _ _ (upd k.file _ _ _) (upd Sf _ _ _)
      rw [upd_other _ _ _ _ e, upd_other _ _ _ _ e]
      exact h'.files G1 (hG1.resolve_right e)
  · by_cases e : G1 = G
    · subst e
      rw [upd_same] at hx
      have := hT x hx
      exact ⟨by omega, fun e => by have := h.seen.rlt _ e; omega, fun e => by have := h.dur.rlt _ e; omega, fun e => by have := h.chg.rlt _ e; omega⟩
    · rw [upd_other _ _ _ _ e] at hx
      exact h'.sepF G1 (hG1.resolve_right e) x hx
  · by_cases e1 : G1 = G
    · subst e1
      rw [upd_same] at hx
      rw [upd_other _ _ _ _ (Ne.symm hne12)] at hx2
      have := (h.files G2 (h2.resolve_right (Ne.symm hne12))).live _ hx2
      have := hT x hx
      omega
    · rw [upd_other _ _ _ _ e1] at hx
      by_cases e2 : G2 = G
      · subst e2
        rw [upd_same] at hx2
        have := (h.files G1 (h1.resolve_right e1)).live _ hx
        have := hT x hx2
        omega
      · rw [upd_other _ _ _ _ e2] at hx2
        exact h.sepFF G1 G2 (h1.resolve_right e1) (h2.resolve_right e2) hne12 x hx hx2
theorem addFlSt {w w1 w2 : World} {d G : Nat} {k : Dk} {f : Fl} {S T : Nat → Prop} (h : St S w d k w1) (hb : Below w1.heap.size w1 w2) (hf : FileAt w2 G f T) (hT : ∀ x, T x → w1.heap.size ≤ x) (hG : w1.heap.size ≤ G) : St S w d (k.addFl G f) w2 := by
  obtain ⟨⟨ms, md, vc, rc, Sf, hm, hS1, hS2, hS3⟩, hc⟩ := h
  have hsz := hb.size
  have hcs := hc.size
  refine ⟨⟨ms, md, vc, rc, _, addFlM hm hb hf hT hG, fun x hx => ?_, fun G1 x hG1 hx => ?_, fun x hx => ?_⟩, hc.more hb⟩
  · rcases hS1 x hx with h | h
    · exact .inl h
    · exact .inr ⟨h.1, by omega⟩
  · by_cases e : G1 = G
    · subst e
      rw [upd_same] at hx
      have := hT x hx
      exact .inr ⟨by omega, hf.live x hx⟩
    · rw [upd_other _ _ _ _ e] at hx
      rcases hS2 G1 x (hG1.resolve_right e) hx with h | h
      · exact .inl h
      · exact .inr ⟨h.1, by omega⟩
  · rcases hx with hx | hx
    · have := hS3 x (.inl hx); omega
    · exact hx.2
/-- One file of an image, loaded. -/
def Dk.load1 (k : Dk) (nm : Nm) (l : List Nat) (G : Nat) : Dk := ((k.addFl G ⟨l, l, []⟩).did (DC.mk nm G)).uses (k.used + l.length)
end Go.Proofs.YthcnhjmkcekdaaaGreat

namespace Go.Proofs.YthcnhjmkcekdaaaGreat
open Go.RowKit Go.Maps Plain
set_option linter.unusedVariables false
set_option linter.unusedSimpArgs false
/-- a <= b, as the program asks it. -/
def leB (a b : Nm) : Bool := Op.bytesLess (str a).toList (str b).toList || (str a).toList == (str b).toList
theorem ImR.after {w w' : World} {v : Value} {im : List (Nm × List Nat)} (h : ImR w v im) (hb : Below w.heap.size w w') : ImR w' v im := by
  obtain ⟨a, c, rfl, h1, h2, h3⟩ := h
  refine ⟨a, c, rfl, h1, h2, fun hne => ?_⟩
  obtain ⟨b, e, h4⟩ := h3 hne
  refine ⟨b, e, fun j k l hj => ?_⟩
  obtain ⟨ad, nd, cd, f1, f2, f3⟩ := h4 j k l hj
  exact ⟨ad, nd, cd, (hb.cell (cell_lt f1)).trans f1, (hb.cell (cell_lt f2)).trans f2, f3.later hb⟩
set_option maxHeartbeats 4000000 in
set_option maxRecDepth 1000000 in
theorem isImageOk (v : Value) (im : List (Nm × List Nat)) (w : World) (h : ImR w v im) (hn : ∀ p ∈ im, nmL p.1 = true) (hz : ∀ p ∈ im, (str p.1).size ≤ maxLen) (hup : ∀ (i : Nat) p q, im[i]? = some p → im[i + 1]? = some q → leB q.1 p.1 = false) :
    Calls Tryz.prog 33 #[v] w fun e w' => e = .returned (.bool true) ∧ Below w.heap.size w w' := by
  have HIM : Hid (ImR w v im) := h
  obtain ⟨a, c, rfl, p1, p2, p3⟩ := h
  have HN : Hid (∀ p ∈ im, nmL p.1 = true ∧ (str p.1).size ≤ maxLen) := fun p hp => ⟨hn p hp, hz p hp⟩
  have HU : Hid (∀ (i : Nat) p q, im[i]? = some p → im[i + 1]? = some q → leB q.1 p.1 = false) := hup
  clear p3 hn hz hup
  go_enter Tryz.func33, Tryz.ntmps33
  go_wp2
  go_loopg [7] im.length (fun gk s7 wx => ∃ (i : Nat), i + gk = im.length ∧ s7 = .int .i64 i ∧ Hid (Below w.heap.size w wx))
  case atStart => exact ⟨0, by omega, rfl, Below.refl _ _⟩
  case round =>
    obtain ⟨i, hi, rfl, HB⟩ := hrel
    cases gk with
    | zero =>
      obtain rfl : i = im.length := by omega
      go_wp2
      go_ret
      exact ⟨rfl, HB.out⟩
    | succ gk1 =>
      have hil : i < im.length := by omega
      have hne : im ≠ [] := by rintro rfl; simp at hil
      obtain ⟨⟨k, l⟩, hkl⟩ : ∃ p, im[i]? = some p := ⟨_, List.getElem?_eq_getElem hil⟩
      obtain ⟨a0, c0, e0, _, _, f0⟩ := HIM.out.after HB.out
      obtain ⟨b, eb, f1⟩ := f0 hne
      cases e0
      subst eb
      obtain ⟨ad, nd, cd, g1, g2, g3⟩ := f1 i k l hkl
      have hk := HN.out _ (List.mem_of_getElem? hkl)
      have HNM : Hid (∀ w1, Calls Tryz.prog 75 #[.string (str k)] w1 fun e w' => e = .returned (.bool true) ∧ w' = w1) := fun w1 => by
        have := isNameOf (str k) w1 hk.2
        rw [str_list, hk.1] at this
        exact this
      rcases Nat.eq_zero_or_pos i with hi0 | hi0
      · have hd0 : decide (0 < i) = false := by simp; omega
        have HB3 : Hid (∀ n, Below w.heap.size w ((wr.alloc (.cells #[.string (str k), .slice ad nd cd] 46)).drewN n)) := fun n => (HB.out.trans ((Below.refl _ wr).alloc (Nat.le_refl _) _ |>.mono HB.out.size)).trans ((below_drewN' _ n).mono (by have := HB.out.size; simp; omega))
        clear f0 f1 g3 hk hkl hne hi0
        generalize str k = sk at *
        go_wp2
        go_quiet ((go_at_call 75; exact Calls.quiet_of_same (HNM.out _)))
        go_wp2
        go_roundg gk1
        case measure => omega
        case rel => exact ⟨i + 1, by omega, by go_num, HB3.out _⟩
      · obtain ⟨j, rfl⟩ : ∃ j, i = j + 1 := ⟨i - 1, by omega⟩
        have hd0 : decide (0 < j + 1) = true := by simp
        obtain ⟨⟨k0, l0⟩, hkl0⟩ : ∃ p, im[j]? = some p := ⟨_, List.getElem?_eq_getElem (by omega)⟩
        obtain ⟨ad0, nd0, cd0, g4, g5, g6⟩ := f1 j k0 l0 hkl0
        have hlt := HU.out j _ _ hkl0 hkl
        have hwj : IntKind.i64.wrap (j : Int) = (j : Int) := by rw [IntKind.wrap_i64]; omega
        have g4a : (wr.alloc (.cells #[.string (str k), .slice ad nd cd] 46)).cell? ⟨b, j * 2, none⟩ = some (.string (str k0)) := (((Below.refl _ wr).alloc (Nat.le_refl _) _).cell (cell_lt g4)).trans g4
        have hji : j < im.length := by omega
        have hjz : (j : Int) < (im.length : Int) := by omega
        have hle : (Op.bytesLess (str k).toList (str k0).toList || (str k).toList == (str k0).toList) = false := hlt
        have HB3 : Hid (∀ n, Below w.heap.size w ((wr.alloc (.cells #[.string (str k), .slice ad nd cd] 46)).drewN n)) := fun n => (HB.out.trans ((Below.refl _ wr).alloc (Nat.le_refl _) _ |>.mono HB.out.size)).trans ((below_drewN' _ n).mono (by have := HB.out.size; simp; omega))
        clear f0 f1 g3 g6 hk hkl hne hi0 hkl0 hlt
        go_wp2
        go_quiet ((go_at_call 75; exact Calls.quiet_of_same (HNM.out _)))
        go_wp2
        go_roundg gk1
        case measure => omega
        case rel => exact ⟨j + 1 + 1, by omega, by go_num, HB3.out _⟩
end Go.Proofs.YthcnhjmkcekdaaaGreat

namespace Go.Proofs.YthcnhjmkcekdaaaGreat
open Go.RowKit Go.Maps Plain
set_option linter.unusedVariables false
set_option linter.unusedSimpArgs false
theorem Dk.Dok.addFl {k : Dk} {n : Nat} (h : k.Dok n) (G : Nat) (l : List Nat) (hl : l.length ≤ 70368744177664) : (k.addFl G ⟨l, l, []⟩).Dok n := by
  refine ⟨⟨fun p hp => .inl (h.ok.refs p hp), fun G' hG' => ?_, h.ok.ops, h.ok.fuse⟩, h.dir, h.eq, h.cnt, h.few⟩
  show (upd k.file G ⟨l, l, []⟩ G').Ok ∧ (upd k.file G ⟨l, l, []⟩ G').chg.length ≤ n
  by_cases e : G' = G
  · subst e; rw [upd_same]
    exact ⟨⟨rfl, fun j m hj => by simp at hj, fun j => by simpa [fst] using hl, by simp⟩, by simp⟩
  · rw [upd_other _ _ _ _ e]; exact h.ok.fok G' (hG'.resolve_right e)
/-- The files xs (each with its block) have been loaded. -/
structure LdI (q : Int) (xs : List ((Nm × List Nat) × Nat)) (k : Dk) : Prop where
  dok : k.Dok xs.length
  sum : k.Sum
  on : k.On
  nmd : k.Nmd
  Ld : k.Ld = []
  perm : k.L.Perm (xs.map fun x => (x.1.1, x.2))
  file : ∀ x ∈ xs, k.live x.2 ∧ k.file x.2 = ⟨x.1.2, x.1.2, []⟩
  quota : k.quota = q
  used : k.used = ((xs.map fun x => x.1.2.length).sum : Nat)
  ops : k.ops = 0
  lv : ∀ G, k.live G → ∃ x ∈ xs, x.2 = G
theorem LdI.start {q : Int} (h0 : 0 ≤ q) (h1 : q ≤ 1073741824) : LdI q [] (Dk.fresh q) :=
  ⟨fresh_dok q, ⟨by simp [Dk.fresh], by simp [Dk.fresh], rfl, ⟨h0, h1⟩, by show (0 : Int) ≤ 70368744177664; omega⟩, ⟨rfl, rfl⟩, fun p hp => by simp [Dk.fresh] at hp, rfl, by simp [Dk.fresh], by simp, rfl, rfl, rfl, fun G hG => hG.elim⟩
theorem LdI.next {q : Int} {xs : List ((Nm × List Nat) × Nat)} {k : Dk} {nm : Nm} {l : List Nat} {G : Nat} (h : LdI q xs k) (hG : ¬ k.live G) (hn : ∀ x ∈ xs, x.1.1 ≠ nm) (hnm : nmL nm = true) (hz : nm.length ≤ maxLen) (hx : xs.length < 65536) (hl : (xs.map fun x => x.1.2.length).sum + l.length ≤ 70368744177664) : LdI q (xs ++ [((nm, l), G)]) (k.load1 nm l G) := by
  have hnone : look k.L nm = none := by
    cases hh : look k.L nm with
    | none => rfl
    | some g =>
      obtain ⟨x, hx1, hx2⟩ := List.mem_map.mp (h.perm.mem_iff.mp (look_mem hh))
      exact (hn x hx1 (congrArg Prod.fst hx2)).elim
  have hp : (k.load1 nm l G).L.Perm ((nm, G) :: k.L) := by
    have := put_perm k.L nm G
    rw [del_none hnone] at this
    exact this
  have hGL : ∀ p ∈ k.L, p.2 ≠ G := fun p hp e => hG (e ▸ h.dok.ok.refs p hp)
  have hlen : (k.load1 nm l G).L.length = xs.length + 1 := by
    rw [hp.length_eq, List.length_cons, h.perm.length_eq, List.length_map]
  have hu := h.used
  refine ⟨?_, ⟨(hp.map _).nodup_iff.mpr ?_, (hp.map _).nodup_iff.mpr ?_, ?_, ?_, ?_⟩, ⟨h.on.dead, h.on.fused⟩, ?_, h.Ld, ?_, ?_, h.quota, ?_, h.ops, ?_⟩
  · rw [List.length_append]
    refine Dk.Dok.uses (Dk.Dok.did (c := DC.mk nm G) ((h.dok.more (Nat.le_succ _)).addFl G l (by omega)) h.dok.cnt hz (fun p hp' => ?_) ?_ (by omega)) _
    · rcases List.mem_cons.mp (hp.mem_iff.mp hp') with e | e
      · rw [e]; exact .inr rfl
      · exact .inl (h.dok.ok.refs p e)
    · exact Nat.le_trans (Nat.le_of_eq hlen) (by omega)
  · rw [List.map_cons, List.nodup_cons]
    refine ⟨fun hm => ?_, h.sum.keys⟩
    obtain ⟨p, hp1, hp2⟩ := List.mem_map.mp hm
    exact look_none hnone p hp1 hp2
  · rw [List.map_cons, List.nodup_cons]
    refine ⟨fun hm => ?_, h.sum.files⟩
    obtain ⟨p, hp1, hp2⟩ := List.mem_map.mp hm
    exact hGL p hp1 hp2
  · rw [tT_perm hp, tT_cons]
    have e1 : (k.load1 nm l G).len G = l.length := by
      show (upd k.file G ⟨l, l, []⟩ G).seen.length = _
      rw [upd_same]
    have e2 : tT (k.load1 nm l G).len k.L = tT k.len k.L := tT_congr (fun p hp => by
      show (upd k.file G ⟨l, l, []⟩ p.2).seen.length = _
      rw [upd_other _ _ _ _ (hGL p hp)]; rfl)
    show k.used + l.length = _
    rw [e1, e2, h.sum.used]; omega
  · exact h.sum.quota
  · show k.used + l.length ≤ 70368744177664
    omega
  · intro p hp'
    rcases List.mem_cons.mp (hp.mem_iff.mp hp') with e | e
    · rw [e]; exact hnm
    · exact h.nmd p e
  · rw [List.map_append]
    exact hp.trans ((List.Perm.cons _ h.perm).trans (List.perm_append_comm (l₁ := [(nm, G)])))
  · intro x hx'
    rcases List.mem_append.mp hx' with hx1 | hx1
    · have hf := h.file x hx1
      refine ⟨.inl hf.1, ?_⟩
      show upd k.file G ⟨l, l, []⟩ x.2 = _
      rw [upd_other _ _ _ _ (fun e : x.2 = G => hG (e ▸ hf.1))]
      exact hf.2
    · obtain rfl := List.mem_singleton.mp hx1
      refine ⟨.inr rfl, ?_⟩
      show upd k.file G ⟨l, l, []⟩ G = _
      rw [upd_same]
  · show k.used + l.length = _
    rw [hu]; simp
  · intro H hH
    rcases hH with hH | hH
    · obtain ⟨x, hx1, hx2⟩ := h.lv H hH
      exact ⟨x, List.mem_append_left _ hx1, hx2⟩
    · exact ⟨((nm, l), G), List.mem_append_right _ List.mem_cons_self, hH.symm⟩
/-- Then it is settled. -/
theorem LdI.done {q : Int} {xs : List ((Nm × List Nat) × Nat)} {k : Dk} (h : LdI q xs k) : k.settled.Good xs.length ∧ k.settled.Past ∧ k.settled.Nmd ∧ k.settled.Still := by
  refine ⟨⟨h.dok.settled, ⟨h.sum.keys, h.sum.files, h.sum.used, h.sum.quota, h.sum.lim⟩, ⟨h.on.dead, h.on.fused⟩⟩, ⟨h.dok.ok.refs, fun nm g hm => by simp [Dk.settled] at hm, h.dok.few⟩, h.nmd, ⟨rfl, fun p hp => ?_⟩⟩
  obtain ⟨x, hx1, hx2⟩ := List.mem_map.mp (h.perm.mem_iff.mp hp)
  have := (h.file x hx1).2
  subst hx2
  show (k.file x.2).chg = []
  rw [this]
end Go.Proofs.YthcnhjmkcekdaaaGreat
