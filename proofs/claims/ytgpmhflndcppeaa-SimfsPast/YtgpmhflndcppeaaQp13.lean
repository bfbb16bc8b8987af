import Derived.Test.YtgpmhflndcppeaaQp12
import Derived.Laws.StructEq
import Derived.Deep.DeepAppendWide
/-! Alike disks stay alike. -/
namespace Go.Proofs.Ytgpmhflndcppeaa
open Go.RowKit Go.Maps Plain
set_option linter.unusedVariables false
set_option linter.unusedSimpArgs false

/-- Both answer the same, and stay alike. -/
def AlikeR (R : Rel) (x y : Int × Dk) : Prop := x.1 = y.1 ∧ ∃ R', Sib R' x.2 y.2
theorem Sib.same {R : Rel} {k1 k2 : Dk} (h : Sib R k1 k2) (e : Int) : AlikeR R (e, k1) (e, k2) := ⟨rfl, R, h⟩
theorem uses_self (k : Dk) : k.uses k.used = k := rfl

theorem create_R {R : Rel} {k1 k2 : Dk} {a b : Nat} {s : ByteArray} (h : Sib R k1 k2) (hd : k1.dead = k2.dead) (hc : k1.can = true) (hc2 : k2.can = true) (ha : ¬ k1.live a) (hb : ¬ k2.live b) : AlikeR R (createK k1 s a) (createK k2 s b) := by
  unfold createK
  rw [hd, h.L.len, hc, hc2]
  have hl : (look k1.L s.data.toList).isSome = (look k2.L s.data.toList).isSome := by
    rcases h.L.look s.data.toList with ⟨e1, e2⟩ | ⟨x, y, e1, e2, _⟩ <;> rw [e1, e2]
    rfl
  rw [hl]
  split
  · exact h.same _
  · split
    · exact h.same _
    · split
      · exact h.same _
      · rw [if_pos rfl, if_pos rfl]
        have h1 := (h.spent.addFile (a := a) (b := b) ha hb).did (c1 := DC.mk s.data.toList a) (c2 := DC.mk s.data.toList b) (.inl ⟨_, _, _, rfl, rfl, .inr ⟨rfl, rfl⟩⟩) k1.used
        refine ⟨rfl, (fun x y => R x y ∨ (x = a ∧ y = b)), ?_⟩
        have e2 : (k2.spent.addFile b).uses k1.used = k2.spent.addFile b := by rw [h.used]; rfl
        rw [e2] at h1
        exact h1
theorem append_R {R : Rel} {k1 k2 : Dk} {s : ByteArray} {l : List Nat} (h : Sib R k1 k2) (hd : k1.dead = k2.dead) (hc : k1.can = true) (hc2 : k2.can = true) : AlikeR R (appendK k1 s l) (appendK k2 s l) := by
  unfold appendK
  rw [h.find hd, h.used, h.quota, hc, hc2]
  split
  · split
    · exact h.same _
    · rcases h.L.look s.data.toList with ⟨e1, e2⟩ | ⟨a, b, e1, e2, hab⟩
      · rw [e1, e2]; exact h.same _
      · rw [e1, e2]
        have := h.spent.setFile hab ((k1.file a).add l) (k2.used + l.length)
        refine ⟨rfl, R, ?_⟩
        simp only [if_true]
        rw [← h.file a b hab]
        exact this
  · exact h.same _
theorem trunc_R {R : Rel} {k1 k2 : Dk} {s : ByteArray} {m : Int} (h : Sib R k1 k2) (hd : k1.dead = k2.dead) (hc : k1.can = true) (hc2 : k2.can = true) : AlikeR R (truncK k1 s m) (truncK k2 s m) := by
  unfold truncK
  rw [h.find hd, h.used, hc, hc2]
  split
  · rcases h.L.look s.data.toList with ⟨e1, e2⟩ | ⟨a, b, e1, e2, hab⟩
    · rw [e1, e2]; exact h.same _
    · rw [e1, e2]
      simp only [if_true]
      rw [h.file a b hab]
      split
      · exact h.same _
      · have := h.spent.setFile hab ((k2.file b).trim m.toNat) (k2.used - ((k2.file b).seen.length - m))
        exact ⟨rfl, R, this⟩
  · exact h.same _
theorem sync_R {R : Rel} {k1 k2 : Dk} {s : ByteArray} (h : Sib R k1 k2) (hd : k1.dead = k2.dead) (hc : k1.can = true) (hc2 : k2.can = true) : AlikeR R (syncK k1 s) (syncK k2 s) := by
  unfold syncK
  rw [h.find hd, hc, hc2]
  split
  · rcases h.L.look s.data.toList with ⟨e1, e2⟩ | ⟨a, b, e1, e2, hab⟩
    · rw [e1, e2]; exact h.same _
    · rw [e1, e2]
      simp only [if_true]
      rw [h.file a b hab]
      have := h.spent.setFile hab ⟨(k2.file b).seen, (k2.file b).seen, []⟩ k1.used
      have e2' : (k2.spent.setFile b ⟨(k2.file b).seen, (k2.file b).seen, []⟩).uses k1.used = k2.spent.setFile b ⟨(k2.file b).seen, (k2.file b).seen, []⟩ := by rw [h.used]; rfl
      rw [e2'] at this
      exact ⟨rfl, R, this⟩
  · exact h.same _
theorem syncDir_R {R : Rel} {k1 k2 : Dk} (h : Sib R k1 k2) (hd : k1.dead = k2.dead) (hc : k1.can = true) (hc2 : k2.can = true) : AlikeR R (syncDirK k1) (syncDirK k2) := by
  unfold syncDirK
  rw [hd, hc, hc2]
  split
  · exact h.same _
  · rw [if_pos rfl, if_pos rfl]
    exact ⟨rfl, R, h.spent.settled⟩
theorem rename_R {R : Rel} {k1 k2 : Dk} {s t : ByteArray} (h : Sib R k1 k2) (hd : k1.dead = k2.dead) (hc : k1.can = true) (hc2 : k2.can = true) : AlikeR R (renameK k1 s t) (renameK k2 s t) := by
  unfold renameK
  rw [h.find hd, hd, h.used, h.size t, hc, hc2]
  split
  · exact h.same _
  · split
    · exact h.same _
    · split
      · rw [if_pos rfl, if_pos rfl]
        exact ⟨rfl, R, h.spent.did (.inr (.inl ⟨_, _, rfl, rfl⟩)) _⟩
      · exact h.same _
theorem remove_R {R : Rel} {k1 k2 : Dk} {s : ByteArray} (h : Sib R k1 k2) (hd : k1.dead = k2.dead) (hc : k1.can = true) (hc2 : k2.can = true) : AlikeR R (removeK k1 s) (removeK k2 s) := by
  unfold removeK
  rw [h.find hd, h.used, h.size s, hc, hc2]
  split
  · rw [if_pos rfl, if_pos rfl]
    exact ⟨rfl, R, h.spent.did (.inr (.inr ⟨_, rfl, rfl⟩)) _⟩
  · exact h.same _
theorem chK_R {R : Rel} {k1 k2 : Dk} {a b : Nat} {kd m : Int} {nm to : ByteArray} {l : List Nat} (h : Sib R k1 k2) (hd : k1.dead = k2.dead) (hc : k1.can = true) (hc2 : k2.can = true) (ha : ¬ k1.live a) (hb : ¬ k2.live b) : AlikeR R (chK k1 kd nm to m l a) (chK k2 kd nm to m l b) := by
  unfold chK
  split
  · exact create_R h hd hc hc2 ha hb
  · split
    · exact append_R h hd hc hc2
    · split
      · exact trunc_R h hd hc hc2
      · split
        · exact sync_R h hd hc hc2
        · split
          · exact syncDir_R h hd hc hc2
          · split
            · exact rename_R h hd hc hc2
            · exact remove_R h hd hc hc2
/-- Two disks that have begun are alike. -/
theorem bg_R (q : Int) (a b : Nat) : ∃ R, Sib R (bg q a) (bg q b) := by
  have key : ∀ (x y : Dk), (∀ f : Fl, x.L = [(kF, a)] → True) → True := fun _ _ _ => trivial
  unfold bg
  split
  · refine ⟨fun x y => x = a ∧ y = b, fun x y x' y' h1 h2 => ?_, fun x y h => ?_, fun x y h => ?_, ⟨⟨rfl, rfl, rfl⟩, trivial⟩, trivial, ⟨.inl ⟨_, _, _, rfl, rfl, rfl, rfl⟩, trivial⟩, rfl, rfl⟩
    · obtain ⟨rfl, rfl⟩ := h1; obtain ⟨rfl, rfl⟩ := h2; exact ⟨fun _ => rfl, fun _ => rfl⟩
    · obtain ⟨rfl, rfl⟩ := h; exact ⟨.inr rfl, .inr rfl⟩
    · obtain ⟨rfl, rfl⟩ := h
      show upd F0 x ⟨[], [], []⟩ x = upd F0 y ⟨[], [], []⟩ y
      rw [upd_same, upd_same]
  · refine ⟨fun x y => x = a ∧ y = b, fun x y x' y' h1 h2 => ?_, fun x y h => ?_, fun x y h => ?_, ⟨⟨rfl, rfl, rfl⟩, trivial⟩, trivial, ⟨.inl ⟨_, _, _, rfl, rfl, rfl, rfl⟩, trivial⟩, rfl, rfl⟩
    · obtain ⟨rfl, rfl⟩ := h1; obtain ⟨rfl, rfl⟩ := h2; exact ⟨fun _ => rfl, fun _ => rfl⟩
    · obtain ⟨rfl, rfl⟩ := h; exact ⟨.inr rfl, .inr rfl⟩
    · obtain ⟨rfl, rfl⟩ := h
      show upd (upd F0 x ⟨[], [], []⟩) x ⟨[7], [], [FC.add [7]]⟩ x = upd (upd F0 y ⟨[], [], []⟩) y ⟨[7], [], [FC.add [7]]⟩ y
      rw [upd_same, upd_same]
end Go.Proofs.Ytgpmhflndcppeaa

/-! Of past directories; disks whose power goes, or is off. -/
namespace Go.Proofs.Ytgpmhflndcppeaa
open Go.RowKit Go.Maps Plain
set_option linter.unusedVariables false
set_option linter.unusedSimpArgs false

/-- The files of the past directories are there. -/
structure Dk.Past (k : Dk) : Prop where
  ld : ∀ p ∈ k.Ld, k.live p.2
  made : ∀ nm g, DC.mk nm g ∈ k.chg → k.live g
  few : k.Ld.length ≤ 65536
theorem on_mem {L : Dir} {c : DC} {p : Nm × Nat} (h : p ∈ DC.on L c) : p ∈ L ∨ (∃ nm, c = DC.mk nm p.2) ∨ ∃ q ∈ L, q.2 = p.2 := by
  cases c using DC.elim with
  | mk k g =>
    rw [DC.on_mk] at h
    rcases mem_put h with rfl | h
    · exact .inr (.inl ⟨k, rfl⟩)
    · exact .inl h
  | mv a b =>
    rw [DC.on_mv] at h
    cases e : look L a with
    | none => rw [e] at h; exact .inl h
    | some g =>
      rw [e] at h
      rcases mem_put (mem_del h) with rfl | h
      · exact .inr (.inr ⟨_, look_mem e, rfl⟩)
      · exact .inl h
  | rm k =>
    rw [DC.on_rm] at h
    exact .inl (mem_del h)
theorem dst_live {lv : Nat → Prop} : ∀ (cs : List DC) (L : Dir), (∀ p ∈ L, lv p.2) → (∀ nm g, DC.mk nm g ∈ cs → lv g) → ∀ p ∈ dst L cs, lv p.2
  | [], L, h1, h2, p, hp => h1 p hp
  | c :: cs, L, h1, h2, p, hp => dst_live cs (DC.on L c) (fun q hq => by
      rcases on_mem hq with h | ⟨nm, h⟩ | ⟨r, hr, e⟩
      · exact h1 q h
      · exact h2 nm q.2 (by rw [← h]; simp)
      · rw [← e]; exact h1 r hr) (fun nm g hg => h2 nm g (List.mem_cons_of_mem _ hg)) p hp
theorem on_len (L : Dir) (c : DC) : (DC.on L c).length ≤ L.length + 1 := by
  cases c using DC.elim with
  | mk k g => rw [DC.on_mk]; exact len_put _ _ _
  | mv a b =>
    rw [DC.on_mv]
    cases e : look L a with
    | none => show L.length ≤ _; omega
    | some g =>
      show (del (put L b g) a).length ≤ _
      have h1 := len_del (put L b g) a
      have h2 := len_put L b g
      omega
  | rm k => rw [DC.on_rm]; have := len_del L k; omega
theorem dst_len : ∀ (cs : List DC) (L : Dir), (dst L cs).length ≤ L.length + cs.length
  | [], L => by show L.length ≤ _; simp
  | c :: cs, L => by
    have h1 := dst_len cs (DC.on L c)
    have h2 := on_len L c
    show (dst (DC.on L c) cs).length ≤ _
    rw [List.length_cons]
    omega
theorem Dk.Past.crash {k : Dk} {n : Nat} (h : k.Past) (hd : k.Dok n) (hn : n ≤ 2000000000000) (ps : List Int) : (∀ p ∈ crL k ps, k.live p.2) ∧ (crL k ps).length ≤ 2199023255000 := by
  refine ⟨dst_live _ _ h.ld (fun nm g hg => h.made nm g (List.mem_of_mem_take hg)), ?_⟩
  have h1 := dst_len (k.chg.take (upV ps k.chg.length)) k.Ld
  have h2 := h.few
  have h3 := hd.cnt
  have h4 : (k.chg.take (upV ps k.chg.length)).length ≤ k.chg.length := by rw [List.length_take]; omega
  unfold crL
  omega
theorem Dk.Past.chK {k : Dk} {n G : Nat} {kd m : Int} {nm to : ByteArray} {l : List Nat} (h : k.Past) (hd : k.Dok n) : (chK k kd nm to m l G).2.Past := by
  have same : ∀ k' : Dk, k'.Ld = k.Ld → k'.chg = k.chg → k'.live = k.live → k'.Past := fun k' e1 e2 e3 => ⟨by rw [e1, e3]; exact h.ld, by rw [e2, e3]; exact h.made, by rw [e1]; exact h.few⟩
  have did : ∀ (k' : Dk) (c : DC), k'.Ld = k.Ld → k'.chg = k.chg ++ [c] → k'.live = k.live → (∀ nm g, c ≠ DC.mk nm g) → k'.Past := fun k' c e1 e2 e3 hc => ⟨by rw [e1, e3]; exact h.ld, fun nm g hg => by
    rw [e2] at hg
    rcases List.mem_append.mp hg with hg | hg
    · rw [e3]; exact h.made nm g hg
    · simp at hg; exact absurd hg.symm (hc nm g), by rw [e1]; exact h.few⟩
  unfold Go.Proofs.Ytgpmhflndcppeaa.chK
  split
  · unfold createK
    split
    · exact h
    · split
      · exact h
      · split
        · exact h
        · split
          · refine ⟨fun p hp => .inl (h.ld p hp), fun nm' g hg => ?_, h.few⟩
            have hg' : DC.mk nm' g ∈ k.chg ++ [DC.mk nm.data.toList G] := hg
            rcases List.mem_append.mp hg' with hg | hg
            · exact .inl (h.made nm' g hg)
            · simp at hg
              have e : (nm', g) = (nm.data.toList, G) := Sum.inl.inj hg
              exact .inr (by simpa using (Prod.mk.inj e).2)
          · exact same _ rfl rfl rfl
  · split
    · unfold appendK
      split
      · split
        · exact h
        · split
          · split
            · exact same _ rfl rfl rfl
            · exact same _ rfl rfl rfl
          · exact h
      · exact h
    · split
      · unfold truncK
        split
        · split
          · split
            · exact h
            · split
              · exact same _ rfl rfl rfl
              · exact same _ rfl rfl rfl
          · exact h
        · exact h
      · split
        · unfold syncK
          split
          · split
            · split
              · exact same _ rfl rfl rfl
              · exact same _ rfl rfl rfl
            · exact h
          · exact h
        · split
          · unfold syncDirK
            split
            · exact h
            · split
              · exact ⟨hd.ok.refs, (fun nm g hg => absurd hg (by intro hh; exact (List.not_mem_nil hh).elim)), hd.few⟩
              · exact same _ rfl rfl rfl
          · split
            · unfold renameK
              split
              · exact h
              · split
                · exact h
                · split
                  · split
                    · exact did _ _ rfl rfl rfl (fun _ _ e => by cases e)
                    · exact same _ rfl rfl rfl
                  · exact h
            · unfold removeK
              split
              · split
                · exact did _ _ rfl rfl rfl (fun _ _ e => by cases e)
                · exact same _ rfl rfl rfl
              · exact h
theorem bg_past (q : Int) (G : Nat) : (bg q G).Past := by
  unfold bg
  split
  · refine ⟨by simp [e1], fun nm g hg => ?_, by simp [e1]⟩
    have hg' : DC.mk nm g ∈ [DC.mk kF G] := hg
    simp at hg'
    have e : (nm, g) = (kF, G) := Sum.inl.inj hg'
    exact .inr (Prod.mk.inj e).2
  · refine ⟨by simp [e2], fun nm g hg => ?_, by simp [e2]⟩
    have hg' : DC.mk nm g ∈ [DC.mk kF G] := hg
    simp at hg'
    have e : (nm, g) = (kF, G) := Sum.inl.inj hg'
    exact .inr (Prod.mk.inj e).2

/-- A disk without power refuses every change. -/
theorem chK_dead {k : Dk} {G : Nat} {kd m : Int} {nm to : ByteArray} {l : List Nat} (h : k.dead = true) : chK k kd nm to m l G = (34, k) := by
  have h1 : ∀ ns, rdy k.dead ns = 34 := fun ns => by unfold rdy; rw [h]; rfl
  have h2 : ∀ s, (fnd k.dead k.L s).2 = 34 := fun s => by unfold fnd; rw [h]; rfl
  have c1 : createK k nm G = (34, k) := by unfold createK; rw [h1, if_pos (by simp)]
  have c2 : appendK k nm l = (34, k) := by unfold appendK; rw [if_neg (by rw [h2]; simp), h2]
  have c3 : truncK k nm m = (34, k) := by unfold truncK; rw [if_neg (by rw [h2]; simp), h2]
  have c4 : syncK k nm = (34, k) := by unfold syncK; rw [if_neg (by rw [h2]; simp), h2]
  have c5 : syncDirK k = (34, k) := by unfold syncDirK; rw [if_pos h]
  have c6 : renameK k nm to = (34, k) := by unfold renameK; rw [h1, if_pos (by simp)]
  have c7 : removeK k nm = (34, k) := by unfold removeK; rw [if_neg (by rw [h2]; simp), h2]
  unfold chK
  rw [c1, c2, c3, c4, c5, c6, c7]
  repeat' split
  all_goals rfl
/-- Of a change that a disk with power does, the same disk, whose fuse is at its end, loses its power; what is refused there is refused here. -/
theorem chK_stuck {R : Rel} {k1 k2 : Dk} {a b : Nat} {kd m : Int} {nm to : ByteArray} {l : List Nat} (h : Sib R k1 k2) (hd : k1.dead = k2.dead) (h1 : k1.dead = false) (hc : k1.can = true) (hc2 : k2.can = false) :
    ((chK k1 kd nm to m l a).1 = 0 → chK k2 kd nm to m l b = (34, k2.spent)) ∧ ((chK k1 kd nm to m l a).1 ≠ 0 → chK k2 kd nm to m l b = ((chK k1 kd nm to m l a).1, k2) ∧ (chK k1 kd nm to m l a).2 = k1) := by
  have hf := fun s => h.find hd s
  have hl : ∀ s, (look k1.L s).isSome = (look k2.L s).isSome := fun s => by
    rcases h.L.look s with ⟨e1, e2⟩ | ⟨x, y, e1, e2, _⟩ <;> rw [e1, e2]
    rfl
  unfold chK
  split
  · unfold createK
    rw [← hd, ← hl, ← h.L.len, hc, hc2]
    split
    · exact ⟨fun e => by contradiction, fun _ => ⟨rfl, rfl⟩⟩
    · split
      · exact ⟨fun e => by simp at e, fun _ => ⟨rfl, rfl⟩⟩
      · split
        · exact ⟨fun e => by simp at e, fun _ => ⟨rfl, rfl⟩⟩
        · exact ⟨fun _ => rfl, fun e => absurd rfl e⟩
  · split
    · unfold appendK
      rw [← hf, ← h.used, ← h.quota, hc, hc2]
      split
      · split
        · exact ⟨fun e => by simp at e, fun _ => ⟨rfl, rfl⟩⟩
        · rcases h.L.look nm.data.toList with ⟨e1, e2⟩ | ⟨x, y, e1, e2, _⟩
          · rw [e1, e2]; exact ⟨fun e => by simp at e, fun _ => ⟨rfl, rfl⟩⟩
          · rw [e1, e2]; exact ⟨fun _ => rfl, fun e => absurd rfl e⟩
      · exact ⟨fun e => by contradiction, fun _ => ⟨rfl, rfl⟩⟩
    · split
      · unfold truncK
        rw [← hf, hc, hc2]
        split
        · rcases h.L.look nm.data.toList with ⟨e1, e2⟩ | ⟨x, y, e1, e2, hxy⟩
          · rw [e1, e2]; exact ⟨fun e => by simp at e, fun _ => ⟨rfl, rfl⟩⟩
          · rw [e1, e2]
            simp only
            rw [h.file x y hxy]
            split
            · exact ⟨fun e => by simp at e, fun _ => ⟨rfl, rfl⟩⟩
            · exact ⟨fun _ => rfl, fun e => absurd rfl e⟩
        · exact ⟨fun e => by contradiction, fun _ => ⟨rfl, rfl⟩⟩
      · split
        · unfold syncK
          rw [← hf, hc, hc2]
          split
          · rcases h.L.look nm.data.toList with ⟨e1, e2⟩ | ⟨x, y, e1, e2, hxy⟩
            · rw [e1, e2]; exact ⟨fun e => by simp at e, fun _ => ⟨rfl, rfl⟩⟩
            · rw [e1, e2]; exact ⟨fun _ => rfl, fun e => absurd rfl e⟩
          · exact ⟨fun e => by contradiction, fun _ => ⟨rfl, rfl⟩⟩
        · split
          · unfold syncDirK
            rw [← hd, h1, hc, hc2]
            exact ⟨fun _ => rfl, fun e => absurd rfl e⟩
          · split
            · unfold renameK
              rw [← hf, ← hd, hc, hc2]
              split
              · exact ⟨fun e => by contradiction, fun _ => ⟨rfl, rfl⟩⟩
              · split
                · exact ⟨fun e => by simp at e, fun _ => ⟨rfl, rfl⟩⟩
                · split
                  · exact ⟨fun _ => rfl, fun e => absurd rfl e⟩
                  · exact ⟨fun e => by contradiction, fun _ => ⟨rfl, rfl⟩⟩
            · unfold removeK
              rw [← hf, hc, hc2]
              split
              · exact ⟨fun _ => rfl, fun e => absurd rfl e⟩
              · exact ⟨fun e => by contradiction, fun _ => ⟨rfl, rfl⟩⟩
end Go.Proofs.Ytgpmhflndcppeaa

/-! The law on the past, plainly: what is kept of a script; what a crash leaves is known. -/
namespace Go.Proofs.Ytgpmhflndcppeaa
open Go.RowKit Go.Maps Plain
set_option linter.unusedVariables false
set_option linter.unusedSimpArgs false

/-- A file's bytes at every moment since its last sync. -/
def sts (f : Fl) : List (List Nat) := (List.range (f.chg.length + 1)).map fun j => fst f.dur (f.chg.take j)
def grw (c : FC) : Int := Sum.elim (fun b => (b.length : Int)) (fun _ => -1) c
theorem grw_add (b : List Nat) : grw (FC.add b) = b.length := rfl
theorem grw_cut (n : Nat) : grw (FC.cut n) = -1 := rfl
def grs (f : Fl) : List Int := -1 :: f.chg.map grw
theorem sts_len (f : Fl) : (sts f).length = f.chg.length + 1 := by simp [sts]
theorem grs_len (f : Fl) : (grs f).length = f.chg.length + 1 := by simp [grs]
theorem sts_at (f : Fl) {j : Nat} (h : j ≤ f.chg.length) : (sts f).getD j [] = fst f.dur (f.chg.take j) := by
  unfold sts
  rw [List.getD_eq_getElem?_getD, List.getElem?_map, List.getElem?_range (by omega)]
  rfl
theorem grs_at (f : Fl) {j : Nat} {c : FC} (h : f.chg[j]? = some c) : (grs f).getD (j + 1) 0 = grw c := by
  unfold grs
  rw [List.getD_eq_getElem?_getD, List.getElem?_cons_succ, List.getElem?_map, h]
  rfl
/-- What the law keeps. -/
structure Ps where
  files : List (List (List Nat))
  grown : List (List Int)
  dirs : List (List (Nm × Nat))
def wasAt (st : List (List Nat)) (gr : List Int) (b : List Nat) (j : Nat) : Bool :=
  decide (st.getD j [] = b) || (decide (j + 1 < st.length) && decide (0 ≤ gr.getD (j + 1) 0) && decide ((st.getD j []).length < b.length) && decide (b.length ≤ (st.getD (j + 1) []).length) && decide (b = (st.getD (j + 1) []).take b.length))
def wasB (st : List (List Nat)) (gr : List Int) (b : List Nat) : Bool := (List.range st.length).any (wasAt st gr b)
def lastF (l : List (Nm × Nat)) (s : Nm) : Option Nat := l.foldl (fun f x => if x.1 = s then some x.2 else f) none
def fitAt (p : Ps) (l : List (Nm × Nat)) (im : List (Nm × List Nat)) (i : Nat) : Bool :=
  (lastF l (im.getD i ([], [])).1).elim false fun f => wasB (p.files.getD f []) (p.grown.getD f []) (im.getD i ([], [])).2 && !(decide (0 < i) && decide ((im.getD i ([], [])).1 ≤ (im.getD (i - 1) ([], [])).1))
def fitsB (p : Ps) (l : List (Nm × Nat)) (im : List (Nm × List Nat)) : Bool := decide (l.length = im.length) && (List.range im.length).all (fitAt p l im)
def knownB (p : Ps) (im : List (Nm × List Nat)) : Bool := (List.range p.dirs.length).any fun j => fitsB p (p.dirs.getD j []) im

theorem wasB_of {st : List (List Nat)} {gr : List Int} {b : List Nat} (j : Nat) (hj : j < st.length) (h : wasAt st gr b j = true) : wasB st gr b = true :=
  List.any_eq_true.mpr ⟨j, List.mem_range.mpr hj, h⟩
/-- What a loss of power leaves of a file it was, or nearly. -/
theorem was_left (f : Fl) (ps : List Int) : wasB (sts f) (grs f) (lf ps f).1 = true := by
  have hi := upV_le ps f.chg.length
  unfold lf
  generalize hu : upV ps f.chg.length = i at hi
  have hB : lfB ps f = (sts f).getD i [] := by unfold lfB; rw [hu, sts_at f hi]
  cases hc : f.chg[i]? with
  | none =>
    refine wasB_of i (by rw [sts_len]; omega) ?_
    simp [wasAt, hB]
  | some c =>
    have hil : i < f.chg.length := (List.getElem?_eq_some_iff.mp hc).1
    refine wasB_of i (by rw [sts_len]; omega) ?_
    show wasAt (sts f) (grs f) (lfB ps f ++ (tornB ps.tail c).1) i = true
    rw [hB]
    cases c using FC.elim with
    | cut n =>
      have : (tornB ps.tail (FC.cut n)).1 = [] := rfl
      rw [this, List.append_nil]
      simp [wasAt]
    | add b =>
      have ht : (tornB ps.tail (FC.add b)).1 = b.take (upV ps.tail b.length) := rfl
      rw [ht]
      generalize upV ps.tail b.length = t
      have hn : (sts f).getD (i + 1) [] = (sts f).getD i [] ++ b := by
        rw [sts_at f (by omega), sts_at f hi, fst_take _ _ _ _ hc]; rfl
      have hg : (grs f).getD (i + 1) 0 = (b.length : Int) := by rw [grs_at f hc]; rfl
      unfold wasAt
      rw [hn, hg]
      generalize (sts f).getD i [] = x
      by_cases he : b.take t = []
      · rw [he, List.append_nil]; simp
      · have hpos : 0 < (b.take t).length := List.length_pos_iff.mpr he
        have hle : (b.take t).length ≤ b.length := by simp; omega
        have e5 : x ++ b.take t = (x ++ b).take (x ++ b.take t).length := by
          have e6 : b.take (b.take t).length = b.take t := by
            rw [List.length_take]
            by_cases hh : t ≤ b.length
            · rw [Nat.min_eq_left hh]
            · rw [Nat.min_eq_right (by omega), List.take_length, List.take_of_length_le (by omega)]
          rw [List.length_append, List.take_length_add_append, e6]
        have h1 : decide (i + 1 < (sts f).length) = true := by rw [sts_len]; simp; omega
        have h2 : decide ((0 : Int) ≤ (b.length : Int)) = true := by simp
        have h3 : decide (x.length < (x ++ b.take t).length) = true := by simp only [List.length_append, decide_eq_true_eq]; omega
        have h4 : decide ((x ++ b.take t).length ≤ (x ++ b).length) = true := by simp only [List.length_append, decide_eq_true_eq]; omega
        have h5 : decide (x ++ b.take t = (x ++ b).take (x ++ b.take t).length) = true := decide_eq_true e5
        rw [h1, h2, h3, h4, h5]
        simp
theorem was_seen {f : Fl} (h : f.Ok) : wasB (sts f) (grs f) f.seen = true := by
  refine wasB_of f.chg.length (by rw [sts_len]; omega) ?_
  unfold wasAt
  rw [sts_at f (Nat.le_refl _), List.take_length, ← h.eq]
  simp
/-- The last of a name's files, where each name has one. -/
theorem lastF_snoc (l : List (Nm × Nat)) (x : Nm × Nat) (s : Nm) : lastF (l ++ [x]) s = if x.1 = s then some x.2 else lastF l s := by simp [lastF]
theorem lastF_none {s : Nm} : ∀ {l : List (Nm × Nat)}, (∀ x ∈ l, x.1 ≠ s) → ∀ f, l.foldl (fun f x => if x.1 = s then some x.2 else f) f = f
  | [], _, f => rfl
  | x :: xs, h, f => by
    rw [List.foldl_cons, if_neg (h x (by simp))]
    exact lastF_none (fun y hy => h y (by simp [hy])) f
theorem lastF_of {s : Nm} {g : Nat} : ∀ {l : List (Nm × Nat)}, (l.map (·.1)).Nodup → (s, g) ∈ l → ∀ f, l.foldl (fun f x => if x.1 = s then some x.2 else f) f = some g
  | [], _, h, f => by simp at h
  | x :: xs, hn, h, f => by
    rw [List.map_cons, List.nodup_cons] at hn
    rw [List.foldl_cons]
    rcases List.mem_cons.mp h with e | e
    · subst e
      rw [if_pos rfl]
      exact lastF_none (fun y hy e => hn.1 (List.mem_map.mpr ⟨y, hy, e⟩)) _
    · exact lastF_of hn.2 e _
theorem imgL_names' {σ : Type} (L : Dir) (B : σ → Nat → List Nat) (nx : σ → Nat → σ) : ∀ (ks : List Nm) (s : σ), (imgL L B nx s ks).map (·.1) = ks
  | [], s => rfl
  | x :: ks, s => by rw [imgL, List.map_cons, imgL_names' L B nx ks]
theorem imgL_each' {σ : Type} (L : Dir) (B : σ → Nat → List Nat) (nx : σ → Nat → σ) : ∀ (ks : List Nm) (s : σ) (p : Nm × List Nat), p ∈ imgL L B nx s ks → ∃ t, p.2 = B t (fileOf L p.1)
  | [], s, p, hp => by simp [imgL] at hp
  | x :: ks, s, p, hp => by
    rw [imgL] at hp
    rcases List.mem_cons.mp hp with rfl | hp
    · exact ⟨s, rfl⟩
    · exact imgL_each' L B nx ks _ p hp
theorem fileOf_mem' {L : Dir} {k : Nm} (h : k ∈ nms L) : (k, fileOf L k) ∈ L := by
  have h1 := nms_mem.mp h
  obtain ⟨q, hq, e⟩ := List.mem_map.mp h1
  unfold fileOf
  cases hl : look L k with
  | none =>
    exfalso
    unfold look at hl
    rw [Option.map_eq_none_iff, List.find?_eq_none] at hl
    exact hl q hq (by simp [e])
  | some g => exact look_mem hl
/-- How what is kept stands to the disk. -/
structure PsR (k : Dk) (ν : Nat → Nat) (p : Ps) : Prop where
  inj : ∀ G H, k.live G → k.live H → ν G = ν H → G = H
  len : p.grown.length = p.files.length
  file : ∀ G, k.live G → ν G < p.files.length ∧ p.files.getD (ν G) [] = sts (k.file G) ∧ p.grown.getD (ν G) [] = grs (k.file G)
  dlen : p.dirs.length = k.chg.length + 1
  dir : ∀ j, j ≤ k.chg.length → (p.dirs.getD j []).Perm ((dst k.Ld (k.chg.take j)).map fun q => (q.1, ν q.2))
  nod : ∀ j, j ≤ k.chg.length → ((dst k.Ld (k.chg.take j)).map (·.1)).Nodup
theorem fits_of {k : Dk} {ν : Nat → Nat} {p : Ps} (h : PsR k ν p) {j : Nat} (hj : j ≤ k.chg.length) {im : List (Nm × List Nat)} (hn : im.map (·.1) = nms (dst k.Ld (k.chg.take j))) (hlv : ∀ q ∈ dst k.Ld (k.chg.take j), k.live q.2)
    (hb : ∀ q ∈ im, wasB (sts (k.file (fileOf (dst k.Ld (k.chg.take j)) q.1))) (grs (k.file (fileOf (dst k.Ld (k.chg.take j)) q.1))) q.2 = true) : knownB p im = true := by
  have hd := h.dir j hj
  have hnd := h.nod j hj
  have hjl : j < p.dirs.length := by rw [h.dlen]; omega
  refine List.any_eq_true.mpr ⟨j, List.mem_range.mpr hjl, ?_⟩
  generalize p.dirs.getD j [] = l at hd
  generalize dst k.Ld (k.chg.take j) = L at *
  have hil : im.length = L.length := by have := congrArg List.length hn; rw [List.length_map, nms_len] at this; exact this
  have hll : l.length = L.length := by rw [hd.length_eq, List.length_map]
  have hln : (l.map (·.1)).Nodup := by
    have e : ((L.map fun q => (q.1, ν q.2)).map (·.1)) = L.map (·.1) := by rw [List.map_map]; rfl
    have := (hd.map (·.1)).nodup_iff.mpr (by rw [e]; exact hnd)
    exact this
  have hms : (nms L).Nodup := (srt_perm _).nodup_iff.mpr hnd
  have hpw := srt_pw (L.map (·.1))
  unfold fitsB
  rw [Bool.and_eq_true]
  refine ⟨by simp; omega, List.all_eq_true.mpr fun i hi => ?_⟩
  have hi' : i < im.length := List.mem_range.mp hi
  have hget : im.getD i ([], []) = im[i] := by rw [List.getD_eq_getElem?_getD, List.getElem?_eq_getElem hi']; rfl
  have hmem : im[i] ∈ im := List.getElem_mem hi'
  have hnm : ∀ (m : Nat) (hm : m < im.length), im[m].1 = (nms L)[m]'(by rw [← hn, List.length_map]; exact hm) := fun m hm => by
    have e : (im.map (·.1))[m]'(by rw [List.length_map]; exact hm) = im[m].1 := by simp
    rw [← e]
    exact List.getElem_of_eq hn _
  have hin : im[i].1 ∈ nms L := by rw [hnm i hi']; exact List.getElem_mem _
  have hfm := fileOf_mem' hin
  have hlm : (im[i].1, ν (fileOf L im[i].1)) ∈ l := hd.mem_iff.mpr (List.mem_map.mpr ⟨_, hfm, rfl⟩)
  have hlast : lastF l im[i].1 = some (ν (fileOf L im[i].1)) := lastF_of hln hlm none
  have hlive := hlv _ hfm
  obtain ⟨-, f2, f3⟩ := h.file _ hlive
  unfold fitAt
  rw [hget, hlast]
  show (wasB (p.files.getD (ν (fileOf L im[i].1)) []) (p.grown.getD (ν (fileOf L im[i].1)) []) im[i].2 && _) = true
  rw [f2, f3, hb _ hmem, Bool.true_and]
  by_cases h0 : 0 < i
  · have hi1 : i - 1 < im.length := by omega
    have hg1 : im.getD (i - 1) ([], []) = im[i - 1] := by rw [List.getD_eq_getElem?_getD, List.getElem?_eq_getElem hi1]; rfl
    rw [hg1]
    have hle : im[i - 1].1 ≤ im[i].1 := by
      rw [hnm _ hi1, hnm _ hi']
      exact List.pairwise_iff_getElem.mp hpw (i - 1) i _ _ (by omega)
    have hne : im[i - 1].1 ≠ im[i].1 := by
      rw [hnm _ hi1, hnm _ hi']
      intro e
      have := (List.getElem_inj hms).mp e
      omega
    have hnot : ¬ im[i].1 ≤ im[i - 1].1 := fun hh => hne (List.le_antisymm hle hh)
    simp [hnot]
  · have : i = 0 := by omega
    simp [this]
theorem known_crash {k : Dk} {ν : Nat → Nat} {p : Ps} {n : Nat} (h : PsR k ν p) (hd : k.Dok n) (hp : k.Past) (hn : n ≤ 2000000000000) (ps : List Int) : knownB p (crK k ps) = true := by
  have hle := upV_le ps k.chg.length
  refine fits_of h hle (im := crK k ps) ?_ (fun q hq => (hp.crash hd hn ps).1 q hq) (fun q hq => ?_)
  · exact imgL_names' _ _ _ _ _
  · obtain ⟨t, e⟩ := imgL_each' _ _ _ _ _ q hq
    rw [e]
    exact was_left _ t
theorem known_image {k : Dk} {ν : Nat → Nat} {p : Ps} {n : Nat} (h : PsR k ν p) (hd : k.Dok n) : knownB p (imK k) = true := by
  have hL : dst k.Ld (k.chg.take k.chg.length) = k.L := by rw [List.take_length, ← hd.eq]
  refine fits_of h (Nat.le_refl _) (im := imK k) ?_ (fun q hq => ?_) (fun q hq => ?_)
  · rw [hL]; exact imgL_names' _ _ _ _ _
  · rw [hL] at hq; exact hd.ok.refs q hq
  · obtain ⟨t, e⟩ := imgL_each' _ _ _ _ _ q hq
    have hq1 : q.1 ∈ nms k.L := by
      have : q.1 ∈ (imK k).map (·.1) := List.mem_map_of_mem hq
      rw [show (imK k).map (·.1) = nms k.L from imgL_names' _ _ _ _ _] at this
      exact this
    rw [hL, e]
    exact was_seen (hd.ok.fok _ (hd.ok.refs _ (fileOf_mem' hq1))).1
end Go.Proofs.Ytgpmhflndcppeaa

/-! Records: in slices that are read, and in rows of the call's own. -/
namespace Go.Proofs.Ytgpmhflndcppeaa
open Go.RowKit Plain
set_option linter.unusedVariables false

structure Nw where
  text : ByteArray
  file : Int
def Nw.zero : Nw := ⟨ByteArray.empty, 0⟩
def Nw.cells (x : Nw) : List Value := [.string x.text, .int .i64 x.file]
abbrev Nw.agg (x : Nw) : Value := .agg #[.string x.text, .int .i64 x.file]
structure Nw.Ok (x : Nw) : Prop where
  text : x.text.size ≤ maxLen
  file : I64 x.file

/-- The cells at a place. -/
structure Nw.CellsAt (w : World) (b o : Nat) (x : Nw) : Prop where
  c0 : w.cell? ⟨b, o, none⟩ = some (.string x.text)
  c1 : w.cell? ⟨b, o + 1, none⟩ = some (.int .i64 x.file)
theorem Nw.CellsAt.lt {w : World} {b o : Nat} {x : Nw} (h : Nw.CellsAt w b o x) : b < w.heap.size := cell_lt h.c0
theorem Nw.CellsAt.block {w w' : World} {b o : Nat} {x : Nw} (h : Nw.CellsAt w b o x) (e : w'.heap[b]? = w.heap[b]?) : Nw.CellsAt w' b o x := by
  have hc : ∀ j, w'.cell? ⟨b, j, none⟩ = w.cell? ⟨b, j, none⟩ := fun j => World.cell?_of_block (w := w) (a := ⟨b, j, none⟩) e
  exact ⟨by rw [hc]; exact h.c0, by rw [hc]; exact h.c1⟩

/-- v is a slice of records that reads as st. -/
def NwsAt (w : World) (v : Value) (st : List Nw) : Prop :=
  ∃ a cap, v = .slice a st.length cap ∧ st.length ≤ 2199023255000 ∧ (∀ x ∈ st, x.Ok) ∧ (st ≠ [] → ∃ b off, a = some ⟨b, off, none⟩ ∧ ∀ j, j < st.length → Nw.CellsAt w b (off + j * 2) (st.getD j Nw.zero))

theorem NwsAt.later {w w' : World} {v : Value} {st : List Nw} (h : NwsAt w v st) (hb : Below w.heap.size w w') : NwsAt w' v st := by
  obtain ⟨a, cap, e, h1, h2, h3⟩ := h
  refine ⟨a, cap, e, h1, h2, fun hne => ?_⟩
  obtain ⟨b, off, e2, hc⟩ := h3 hne
  exact ⟨b, off, e2, fun j hj => (hc j hj).block (hb.block b (hc j hj).lt)⟩

def nwcells (ts : List Nw) : List Value := ts.flatMap Nw.cells
theorem nwcells_app (ts ks : List Nw) : nwcells (ts ++ ks) = nwcells ts ++ nwcells ks := by simp [nwcells]
theorem nwcells_cons (t : Nw) (ts : List Nw) : nwcells (t :: ts) = [.string t.text, .int .i64 t.file] ++ nwcells ts := rfl
theorem nwcells_len : ∀ (ts : List Nw), (nwcells ts).length = 2 * ts.length
  | [] => rfl
  | t :: ts => by
    have := nwcells_len ts
    rw [nwcells_cons, List.length_append, this]
    simp only [List.length_cons, List.length_nil]
    omega
theorem nwcells_get (ts : List Nw) (j i : Nat) (h : j < ts.length) (hi : i < 2) : (nwcells ts)[j * 2 + i]? = (ts.getD j Nw.zero).cells[i]? := by
  induction ts generalizing j with
  | nil => simp at h
  | cons t ts ih =>
    cases j with
    | zero =>
      rw [nwcells_cons, List.getElem?_append_left (by simp; omega)]
      simp [Nw.cells]
    | succ j =>
      have := ih j (by simpa using h)
      rw [nwcells_cons, List.getElem?_append_right (by simp; omega)]
      simpa [show (j + 1) * 2 + i - 2 = j * 2 + i by omega] using this

theorem Try.info83 : (Try.prog.info? 83).map (fun i => (i.zero, i.size, i.bytes)) = some (some Nw.zero.agg, 2, 24) := by kernel_rfl

/-- v is a slice of records of the call's own, in block r. -/
def OwnNw (w : World) (v : Value) (ts : List Nw) (r : Option Nat) : Prop :=
  (v = .slice none 0 0 ∧ ts = [] ∧ r = none) ∨
  ∃ g cap, r = some g ∧ v = .slice (some ⟨g, 0, none⟩) ts.length cap ∧ g < w.heap.size ∧ ts.length ≤ cap ∧ cap ≤ maxLen ∧ (∀ j, j < 2 * cap → w.frozen? ⟨g, j, none⟩ = false) ∧ (∀ j, j < 2 * cap → (w.cell? ⟨g, j, none⟩).isSome = true) ∧
    ∀ j, j < 2 * ts.length → w.cell? ⟨g, j, none⟩ = (nwcells ts)[j]?

theorem OwnNw.nil (w : World) : OwnNw w (.slice none 0 0) [] none := .inl ⟨rfl, rfl, rfl⟩

theorem OwnNw.kept {w w' : World} {v : Value} {ts : List Nw} {r r' : Option Nat} (h : OwnNw w v ts r) (k : w.grownBy w' r') (hne : r = none ∨ r ≠ r') : OwnNw w' v ts r := by
  rcases h with h0 | ⟨g, cap, rfl, rfl, hg, h1, h2, h3, h4, h5⟩
  · exact .inl h0
  · have hb : w'.heap[g]? = w.heap[g]? := k.block g hg (by rcases hne with h | h <;> simp_all)
    refine .inr ⟨g, cap, rfl, rfl, Nat.lt_of_lt_of_le hg k.size, h1, h2, fun j hj => ?_, fun j hj => ?_, fun j hj => ?_⟩
    · rw [World.frozen?_of_block (w := w) (a := ⟨g, j, none⟩) hb]; exact h3 j hj
    · rw [World.cell?_of_block (w := w) (a := ⟨g, j, none⟩) hb]; exact h4 j hj
    · rw [World.cell?_of_block (w := w) (a := ⟨g, j, none⟩) hb]; exact h5 j hj
theorem OwnNw.later {w w' : World} {v : Value} {ts : List Nw} {r : Option Nat} (h : OwnNw w v ts r) (k : Below w.heap.size w w') : OwnNw w' v ts r := by
  cases r with
  | none => exact h.kept (below_grow k none) (.inl rfl)
  | some g => exact h.kept (below_grow k none) (.inr (by simp))

theorem OwnNw.lt {w : World} {v : Value} {ts : List Nw} {g : Nat} (h : OwnNw w v ts (some g)) : g < w.heap.size := by
  rcases h with ⟨_, _, h⟩ | ⟨g', cap, e, _, hg, _⟩
  · simp at h
  · simp at e; omega

theorem OwnNw.shape {w : World} {v : Value} {ts : List Nw} {r : Option Nat} (h : OwnNw w v ts r) : ∃ a cap, v = .slice a ts.length cap ∧ cap ≤ maxLen ∧ ts.length ≤ cap := by
  rcases h with ⟨rfl, rfl, h⟩ | ⟨g', cap, e, rfl, hg, h1, h2, _⟩
  · exact ⟨none, 0, rfl, by simp, by simp⟩
  · exact ⟨_, cap, rfl, h2, h1⟩

theorem OwnNw.at {w : World} {v : Value} {ts : List Nw} {g : Nat} (h : OwnNw w v ts (some g)) {j : Nat} (hj : j < ts.length) : Nw.CellsAt w g (j * 2) (ts.getD j Nw.zero) := by
  rcases h with ⟨_, _, h⟩ | ⟨g', cap, e, e2, hg, h1, h2, h3, h4, h5⟩
  · simp at h
  · simp at e; subst e
    have hc : ∀ i, i < 2 → w.cell? ⟨g, j * 2 + i, none⟩ = (ts.getD j Nw.zero).cells[i]? := fun i hi => by rw [h5 _ (by omega)]; exact nwcells_get ts j i hj hi
    exact ⟨hc 0 (by decide), hc 1 (by decide)⟩

theorem OwnNw.recs {w : World} {v : Value} {ts : List Nw} {r : Option Nat} (h : OwnNw w v ts r) (hl : ts.length ≤ 2199023255000) (hok : ∀ x ∈ ts, x.Ok) : NwsAt w v ts := by
  have h' := h
  rcases h with ⟨rfl, rfl, rfl⟩ | ⟨g, cap, rfl, rfl, hg, h1, h2, h3, h4, h5⟩
  · exact ⟨none, 0, rfl, by simp, by simp, by simp⟩
  · refine ⟨_, cap, rfl, hl, hok, fun _ => ⟨g, 0, rfl, fun j hj => ?_⟩⟩
    rw [Nat.zero_add]
    exact h'.at hj

theorem zcells2nw : Nw.zero.agg.cells.size = 2 := by rfl

/-- WHAT append DOES of records. -/
theorem run_append_nw (w : World) (ty : TypeId) (v x : Value) (ts : List Nw) (ks : List Nw) (r : Option Nat) (hown : OwnNw w v ts r) (hs : Src Try.prog 2 54 x ks.length (nwcells ks) w) (hlen : ts.length + ks.length ≤ 2199023255552) (hr0 : r ≠ none ∨ 0 < ks.length) :
    ∃ v' w' g, (Builtin.append_ #[54, 54] ty #[v, x]).run Try.prog w = .ok v' w' ∧ OwnNw w' v' (ts ++ ks) (some g) ∧ w.grownBy w' r ∧ (some g = r ∨ g = w.heap.size) := by
  obtain ⟨i, hi, hz0, hz1, hz2⟩ := info_parts Try.info83
  have hs' : Src Try.prog i.size 54 x ks.length (nwcells ks) w := by rw [hz1]; exact hs
  have hl2 : (ts ++ ks).length = ts.length + ks.length := by simp
  have grow : ∀ (base : Option Addr) (sCap : Nat), (Builtin.firstCells i.size ts.length (.slice base ts.length sCap)).run Try.prog w.drew = .ok (nwcells ts).toArray w.drew → sCap < ts.length + ks.length →
      ∃ v' w' g, (Builtin.append_ #[54, 54] ty #[.slice base ts.length sCap, x]).run Try.prog w = .ok v' w' ∧ OwnNw w' v' (ts ++ ks) (some g) ∧ w.grownBy w' r ∧ (some g = r ∨ g = w.heap.size) := by
    intro base sCap hold hg
    have hr := run_append_grow_src (P := Try.prog) w 54 54 ty 83 i _ Try.underlying54 hi hz0 base ts.length sCap (nwcells ts) hold x ks.length (nwcells ks) hs' hg (by omega) (by rw [hz2]; exact growslice_fits_wide hg (by omega))
    have hge := grownCap_ge w (ts.length + ks.length) sCap 83
    have hcm := grownCap_le_maxLen w (ts.length + ks.length) sCap 83 (by unfold maxLen; omega)
    refine ⟨_, _, w.heap.size, hr, ?_, ⟨rfl, rfl, rfl, by simp, fun k hk _ => Below.heap_alloc w.drew _ k hk⟩, .inr rfl⟩
    obtain ⟨C, hC⟩ : ∃ C, (nwcells ts ++ (nwcells ks)).toArray ++ Builtin.zeroCells Nw.zero.agg.cells (grownCap w (ts.length + ks.length) sCap 83 - (ts.length + ks.length)) = C := ⟨_, rfl⟩
    have hCs : C.size = 2 * grownCap w (ts.length + ks.length) sCap 83 := by
      rw [← hC, Array.size_append, List.size_toArray, size_zeroCells, zcells2nw, List.length_append, nwcells_len, nwcells_len]
      omega
    have hCg : ∀ j, j < 2 * (ts.length + ks.length) → C[j]? = (nwcells (ts ++ ks))[j]? := fun j hj => by
      rw [← hC, Array.getElem?_append_left (by rw [List.size_toArray, List.length_append, nwcells_len, nwcells_len]; omega), List.getElem?_toArray, nwcells_app]
    rw [hC]
    refine .inr ⟨w.heap.size, grownCap w (ts.length + ks.length) sCap 83, rfl, by rw [hl2], by simp, by rw [hl2]; exact hge, hcm, fun j hj => ?_, fun j hj => ?_, fun j hj => ?_⟩
    · exact World.frozen?_alloc_at _ _ _ _ rfl
    · show ((w.drew.alloc (Obj.cells C 83)).cell? ⟨w.drew.heap.size, j, none⟩).isSome = true
      rw [World.cell?_alloc_at _ _ _ _ rfl, Array.getElem?_eq_getElem (by omega)]; rfl
    · rw [hl2] at hj
      show (w.drew.alloc (Obj.cells C 83)).cell? ⟨w.drew.heap.size, j, none⟩ = _
      rw [World.cell?_alloc_at _ _ _ _ rfl]; exact hCg j hj
  rcases hown with ⟨rfl, rfl, rfl⟩ | ⟨g, cap, rfl, rfl, hg, h1, h2, h3, h4, h5⟩
  · rcases hr0 with h | h
    · exact absurd rfl h
    · exact grow none 0 (by rw [List.length_nil]; exact run_firstCells_none w.drew _ _ _ _) (by simpa using h)
  · by_cases hroom : ts.length + ks.length ≤ cap
    · have hr := run_append_room_src (P := Try.prog) w 54 54 ty 83 i Try.underlying54 hi g 0 ts.length cap x ks.length (nwcells ks) hs' hroom
        (fun j hj => by rw [hz1]; rw [nwcells_len] at hj; exact h4 _ (by omega))
        (fun j hj => by rw [hz1]; rw [nwcells_len] at hj; exact h3 _ (by omega))
      rw [hz1, Nat.zero_add] at hr
      refine ⟨_, _, g, hr, .inr ⟨g, cap, rfl, by rw [hl2], ?_, by omega, h2, fun j hj => ?_, fun j hj => ?_, fun j hj => ?_⟩, grow_setCells w g _ _, .inl rfl⟩
      · rw [setCells_size]; exact hg
      · rw [World.frozen?_setCells]; exact h3 j hj
      · exact isSome_setCells g _ _ w _ (h4 j hj)
      · rw [hl2] at hj
        by_cases hj' : j < 2 * ts.length
        · rw [World.cell?_setCells_out g _ _ w _ (fun _ _ => .inl (by show j < ts.length * 2; omega)), h5 j hj', nwcells_app, List.getElem?_append_left (by rw [nwcells_len]; exact hj')]
        · have hj2 : j - 2 * ts.length < (nwcells ks).length := by rw [nwcells_len]; omega
          have := World.cell?_setCells_in g (nwcells ks) (ts.length * 2) w (fun m hm => h4 _ (by rw [nwcells_len] at hm; omega)) (j - 2 * ts.length) hj2
          rw [show ts.length * 2 + (j - 2 * ts.length) = j by omega] at this
          rw [this, nwcells_app, List.getElem?_append_right (by rw [nwcells_len]; omega), nwcells_len, List.getElem?_eq_getElem hj2]
    · refine grow _ cap ?_ (by omega)
      rw [hz1]
      refine run_firstCells_some w.drew 2 ts.length ⟨g, 0, none⟩ _ _ (nwcells ts) (by rw [nwcells_len]; omega) (fun j u hj => ?_)
      have hjl : j < 2 * ts.length := by
        have := (List.getElem?_eq_some_iff.mp hj).1
        rwa [nwcells_len] at this
      rw [WideShapes.add_plain, Nat.zero_add]
      show w.cell? ⟨g, j, none⟩ = some u
      rw [h5 j hjl, hj]

theorem wpList_append_nw {ops : Array Oper} {rest : List Oper} {o : Oper} {a : Act} {Q : Exit → Act → World → Prop} (w : World) (hgd : o.guard = none) (s x : Operand)
    (ho : o.op = .call { callee := .builtin .append, args := #[s, x], argTypes := #[54, 54] }) (v xv : Value) (ts : List Nw) (ks : List Nw) (r : Option Nat)
    (hs : a.eval s = v) (hx : a.eval x = xv) (hown : OwnNw w v ts r) (hsrc : Src Try.prog 2 54 xv ks.length (nwcells ks) w) (hlen : ts.length + ks.length ≤ 2199023255552) (hr0 : r ≠ none ∨ 0 < ks.length)
    (h : ∀ v' w' g, OwnNw w' v' (ts ++ ks) (some g) → w.grownBy w' r → (some g = r ∨ g = w.heap.size) → wpList Try.prog ops Q rest (a.put o.dst v') w') : wpList Try.prog ops Q (o :: rest) a w :=
  wpList_plain hgd fun _ hK => by
    obtain ⟨v', w', g, hr, h1, h2, h3⟩ := run_append_nw w o.type v xv ts ks r hown hsrc hlen hr0
    unfold Oper.wp execOp
    simp only [ho, resolve, invoke, builtin, Sem.run_bind, Sem.run_pure, Result.andThen_ok, List.map_toArray, List.map_cons, List.map_nil, hs, hx, hr]
    exact hK _ _ (h v' w' g h1 h2 h3)
end Go.Proofs.Ytgpmhflndcppeaa
