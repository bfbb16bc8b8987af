import Derived.Test.YtadflolbgcdncaaQa
/-! Two disks that are alike, up to the numbers of their files. -/
namespace Go.Proofs.Ytadflolbgcdncaa
open Go.RowKit Go.Maps Plain
set_option linter.unusedVariables false
set_option linter.unusedSimpArgs false

abbrev Rel := Nat → Nat → Prop
/-- Directories with the same names, the files of each pair alike. -/
def DirR (R : Rel) : Dir → Dir → Prop
  | [], [] => True
  | p :: L, q :: M => (p.1 = q.1 ∧ R p.2 q.2) ∧ DirR R L M
  | _, _ => False
theorem DirR.mono {R R' : Rel} (hR : ∀ a b, R a b → R' a b) : ∀ {L M : Dir}, DirR R L M → DirR R' L M
  | [], [], h => trivial
  | p :: L, q :: M, h => ⟨⟨h.1.1, hR _ _ h.1.2⟩, DirR.mono hR h.2⟩
  | [], q :: M, h => h.elim
  | p :: L, [], h => h.elim
theorem DirR.keys {R : Rel} : ∀ {L M : Dir}, DirR R L M → L.map (·.1) = M.map (·.1)
  | [], [], h => rfl
  | p :: L, q :: M, h => by rw [List.map_cons, List.map_cons, h.1.1, DirR.keys h.2]
  | [], q :: M, h => h.elim
  | p :: L, [], h => h.elim
theorem DirR.len {R : Rel} {L M : Dir} (h : DirR R L M) : L.length = M.length := by
  have := congrArg List.length h.keys
  simpa using this
/-- What the two look-ups find. -/
def LkR (R : Rel) (x y : Option Nat) : Prop := (x = none ∧ y = none) ∨ ∃ a b, x = some a ∧ y = some b ∧ R a b
theorem DirR.look {R : Rel} (k : Nm) : ∀ {L M : Dir}, DirR R L M → LkR R (look L k) (look M k)
  | [], [], h => .inl ⟨rfl, rfl⟩
  | p :: L, q :: M, h => by
    unfold Go.Proofs.Ytadflolbgcdncaa.look
    rw [List.find?_cons, List.find?_cons, ← h.1.1]
    by_cases e : p.1 = k
    · rw [show (p.1 == k) = true by simpa using e]
      exact .inr ⟨p.2, q.2, rfl, rfl, h.1.2⟩
    · rw [show (p.1 == k) = false by simpa using e]
      exact DirR.look k h.2
  | [], q :: M, h => h.elim
  | p :: L, [], h => h.elim
theorem DirR.ins {R : Rel} {k : Nm} {a b : Nat} (hab : R a b) : ∀ {L M : Dir}, DirR R L M → DirR R (ins (k, a) L) (ins (k, b) M)
  | [], [], h => ⟨⟨rfl, hab⟩, trivial⟩
  | p :: L, q :: M, h => by
    unfold Go.Proofs.Ytadflolbgcdncaa.ins
    rw [← h.1.1]
    by_cases e : (Lit.string (k, a).1).before (.string p.1) = true
    · rw [if_pos e, if_pos e]
      exact ⟨⟨rfl, hab⟩, h⟩
    · rw [if_neg e, if_neg e]
      exact ⟨h.1, DirR.ins hab h.2⟩
  | [], q :: M, h => h.elim
  | p :: L, [], h => h.elim
theorem DirR.del {R : Rel} (k : Nm) : ∀ {L M : Dir}, DirR R L M → DirR R (del L k) (del M k)
  | [], [], h => trivial
  | p :: L, q :: M, h => by
    rw [del_cons, del_cons, ← h.1.1]
    by_cases e : p.1 = k
    · rw [if_pos e, if_pos e]; exact DirR.del k h.2
    · rw [if_neg e, if_neg e]; exact ⟨h.1, DirR.del k h.2⟩
  | [], q :: M, h => h.elim
  | p :: L, [], h => h.elim
theorem DirR.put {R : Rel} {k : Nm} {a b : Nat} {L M : Dir} (h : DirR R L M) (hab : R a b) : DirR R (put L k a) (put M k b) := DirR.ins hab (h.del k)
theorem DirR.mem {R : Rel} : ∀ {L M : Dir}, DirR R L M → ∀ p ∈ L, ∃ b, R p.2 b
  | [], [], h, p, hp => by simp at hp
  | p0 :: L, q :: M, h, p, hp => by
    rcases List.mem_cons.mp hp with rfl | hp
    · exact ⟨_, h.1.2⟩
    · exact DirR.mem h.2 p hp
  | [], q :: M, h, _, _ => h.elim
  | p0 :: L, [], h, _, _ => h.elim

/-- Changes of the directory that are alike. -/
def DCR (R : Rel) (c1 c2 : DC) : Prop := (∃ k a b, c1 = DC.mk k a ∧ c2 = DC.mk k b ∧ R a b) ∨ (∃ a b, c1 = DC.mv a b ∧ c2 = DC.mv a b) ∨ ∃ k, c1 = DC.rm k ∧ c2 = DC.rm k
theorem DCR.mono {R R' : Rel} (hR : ∀ a b, R a b → R' a b) {c1 c2 : DC} (h : DCR R c1 c2) : DCR R' c1 c2 := by
  rcases h with ⟨k, a, b, h1, h2, h3⟩ | h | h
  · exact .inl ⟨k, a, b, h1, h2, hR _ _ h3⟩
  · exact .inr (.inl h)
  · exact .inr (.inr h)
theorem DCR.on {R : Rel} {c1 c2 : DC} (h : DCR R c1 c2) {L M : Dir} (hd : DirR R L M) : DirR R (DC.on L c1) (DC.on M c2) := by
  rcases h with ⟨k, a, b, rfl, rfl, h3⟩ | ⟨a, b, rfl, rfl⟩ | ⟨k, rfl, rfl⟩
  · rw [DC.on_mk, DC.on_mk]; exact hd.put h3
  · rw [DC.on_mv, DC.on_mv]
    rcases hd.look a with ⟨e1, e2⟩ | ⟨x, y, e1, e2, hxy⟩
    · rw [e1, e2]; exact hd
    · rw [e1, e2]; exact (hd.put hxy).del a
  · rw [DC.on_rm, DC.on_rm]; exact hd.del k
def CsR (R : Rel) : List DC → List DC → Prop
  | [], [] => True
  | c :: L, d :: M => DCR R c d ∧ CsR R L M
  | _, _ => False
theorem CsR.mono {R R' : Rel} (hR : ∀ a b, R a b → R' a b) : ∀ {L M : List DC}, CsR R L M → CsR R' L M
  | [], [], h => trivial
  | p :: L, q :: M, h => ⟨h.1.mono hR, CsR.mono hR h.2⟩
  | [], q :: M, h => h.elim
  | p :: L, [], h => h.elim
theorem CsR.len {R : Rel} : ∀ {L M : List DC}, CsR R L M → L.length = M.length
  | [], [], h => rfl
  | p :: L, q :: M, h => by rw [List.length_cons, List.length_cons, CsR.len h.2]
  | [], q :: M, h => h.elim
  | p :: L, [], h => h.elim
theorem CsR.snoc {R : Rel} {c d : DC} (hcd : DCR R c d) : ∀ {L M : List DC}, CsR R L M → CsR R (L ++ [c]) (M ++ [d])
  | [], [], h => ⟨hcd, trivial⟩
  | p :: L, q :: M, h => ⟨h.1, CsR.snoc hcd h.2⟩
  | [], q :: M, h => h.elim
  | p :: L, [], h => h.elim
theorem CsR.take {R : Rel} : ∀ (n : Nat) {L M : List DC}, CsR R L M → CsR R (L.take n) (M.take n)
  | 0, L, M, h => by simp only [List.take_zero]; trivial
  | n + 1, [], [], h => trivial
  | n + 1, p :: L, q :: M, h => ⟨h.1, CsR.take n h.2⟩
  | n + 1, [], q :: M, h => h.elim
  | n + 1, p :: L, [], h => h.elim
theorem CsR.dst {R : Rel} : ∀ {cs ds : List DC} {L M : Dir}, CsR R cs ds → DirR R L M → DirR R (dst L cs) (dst M ds)
  | [], [], L, M, h, hd => hd
  | c :: cs, d :: ds, L, M, h, hd => by
    show DirR R (Go.Proofs.Ytadflolbgcdncaa.dst (DC.on L c) cs) (Go.Proofs.Ytadflolbgcdncaa.dst (DC.on M d) ds)
    exact CsR.dst (cs := cs) (ds := ds) h.2 (h.1.on hd)
  | [], d :: ds, L, M, h, hd => h.elim
  | c :: cs, [], L, M, h, hd => h.elim

/-- The two disks have the same files under the same names, seen and durable, and the same changes between. -/
structure Sib (R : Rel) (k1 k2 : Dk) : Prop where
  one : ∀ a b a' b', R a b → R a' b' → (a = a' ↔ b = b')
  live : ∀ a b, R a b → k1.live a ∧ k2.live b
  file : ∀ a b, R a b → k1.file a = k2.file b
  L : DirR R k1.L k2.L
  Ld : DirR R k1.Ld k2.Ld
  chg : CsR R k1.chg k2.chg
  used : k1.used = k2.used
  quota : k1.quota = k2.quota
theorem Sib.size {R : Rel} {k1 k2 : Dk} (h : Sib R k1 k2) (s : ByteArray) : sizeK k1 s = sizeK k2 s := by
  unfold sizeK
  rcases h.L.look s.data.toList with ⟨e1, e2⟩ | ⟨a, b, e1, e2, hab⟩
  · rw [e1, e2]; rfl
  · rw [e1, e2]
    show (k1.file a).seen.length = (k2.file b).seen.length
    rw [h.file a b hab]
theorem imgL_R {σ : Type} {R : Rel} {L M : Dir} (h : DirR R L M) (B1 B2 : σ → Nat → List Nat) (n1 n2 : σ → Nat → σ) (hB : ∀ s a b, R a b → B1 s a = B2 s b ∧ n1 s a = n2 s b) : ∀ (ks : List Nm) (s : σ), (∀ k ∈ ks, k ∈ L.map (·.1)) → imgL L B1 n1 s ks = imgL M B2 n2 s ks
  | [], s, _ => rfl
  | k :: ks, s, hk => by
    obtain ⟨g, hg⟩ := look_some (hk k (by simp))
    rcases h.look k with ⟨e1, _⟩ | ⟨a, b, e1, e2, hab⟩
    · rw [hg] at e1; simp at e1
    · have f1 : fileOf L k = a := by unfold fileOf; rw [e1]; rfl
      have f2 : fileOf M k = b := by unfold fileOf; rw [e2]; rfl
      simp only [imgL, f1, f2]
      rw [(hB s a b hab).1, (hB s a b hab).2, imgL_R h B1 B2 n1 n2 hB ks _ (fun x hx => hk x (by simp [hx]))]
theorem nms_R {R : Rel} {L M : Dir} (h : DirR R L M) : nms L = nms M := by unfold nms; rw [h.keys]
theorem Sib.image {R : Rel} {k1 k2 : Dk} (h : Sib R k1 k2) : imK k1 = imK k2 := by
  unfold imK
  rw [← nms_R h.L]
  exact imgL_R h.L _ _ _ _ (fun s a b hab => ⟨by rw [h.file a b hab], rfl⟩) _ _ (fun k hk => nms_mem.mp hk)
theorem Sib.crash {R : Rel} {k1 k2 : Dk} (h : Sib R k1 k2) (ps : List Int) : crK k1 ps = crK k2 ps := by
  unfold crK
  have hL : DirR R (crL k1 ps) (crL k2 ps) := by
    unfold crL
    rw [← h.chg.len]
    exact (h.chg.take _).dst h.Ld
  rw [← nms_R hL]
  exact imgL_R hL _ _ _ _ (fun s a b hab => ⟨by rw [h.file a b hab], by rw [h.file a b hab]⟩) _ _ (fun k hk => nms_mem.mp hk)
/-- A file of both has turned, in the same way. -/
theorem Sib.setFile {R : Rel} {k1 k2 : Dk} (h : Sib R k1 k2) {a b : Nat} (hab : R a b) (f : Fl) (u : Int) : Sib R ((k1.setFile a f).uses u) ((k2.setFile b f).uses u) := by
  refine ⟨h.one, h.live, fun x y hxy => ?_, h.L, h.Ld, h.chg, rfl, h.quota⟩
  show upd k1.file a f x = upd k2.file b f y
  by_cases e : x = a
  · have e2 : y = b := (h.one x y a b hxy hab).mp e
    rw [e, e2, upd_same, upd_same]
  · have e2 : y ≠ b := fun e2 => e ((h.one x y a b hxy hab).mpr e2)
    rw [upd_other _ _ _ _ e, upd_other _ _ _ _ e2]
    exact h.file x y hxy
theorem Sib.did {R : Rel} {k1 k2 : Dk} (h : Sib R k1 k2) {c1 c2 : DC} (hc : DCR R c1 c2) (u : Int) : Sib R ((k1.uses u).did c1) ((k2.uses u).did c2) :=
  ⟨h.one, h.live, h.file, hc.on h.L, h.Ld, CsR.snoc hc h.chg, rfl, h.quota⟩
theorem Sib.settled {R : Rel} {k1 k2 : Dk} (h : Sib R k1 k2) : Sib R k1.settled k2.settled := ⟨h.one, h.live, h.file, h.L, h.L, trivial, h.used, h.quota⟩
theorem Sib.spent {R : Rel} {k1 k2 : Dk} (h : Sib R k1 k2) : Sib R k1.spent k2.spent := ⟨h.one, h.live, h.file, h.L, h.Ld, h.chg, h.used, h.quota⟩
theorem Sib.spentL {R : Rel} {k1 k2 : Dk} (h : Sib R k1 k2) : Sib R k1 k2.spent := ⟨h.one, h.live, h.file, h.L, h.Ld, h.chg, h.used, h.quota⟩
theorem Sib.find {R : Rel} {k1 k2 : Dk} (h : Sib R k1 k2) (hd : k1.dead = k2.dead) (s : ByteArray) : (fnd k1.dead k1.L s).2 = (fnd k2.dead k2.L s).2 := by
  unfold fnd
  rw [hd]
  cases k2.dead with
  | true => rfl
  | false =>
    cases nmL s.data.toList with
    | false => rfl
    | true =>
      rcases h.L.look s.data.toList with ⟨e1, e2⟩ | ⟨a, b, e1, e2, hab⟩
      · rw [e1, e2]
      · rw [e1, e2]; rfl
/-- A new file of both. -/
theorem Sib.addFile {R : Rel} {k1 k2 : Dk} (h : Sib R k1 k2) {a b : Nat} (ha : ¬ k1.live a) (hb : ¬ k2.live b) : Sib (fun x y => R x y ∨ (x = a ∧ y = b)) (k1.addFile a) (k2.addFile b) := by
  have hm : ∀ x y, R x y → (R x y ∨ (x = a ∧ y = b)) := fun _ _ h => .inl h
  refine ⟨fun x y x' y' h1 h2 => ?_, fun x y hxy => ?_, fun x y hxy => ?_, h.L.mono hm, h.Ld.mono hm, h.chg.mono hm, h.used, h.quota⟩
  · rcases h1 with h1 | ⟨rfl, rfl⟩
    · rcases h2 with h2 | ⟨rfl, rfl⟩
      · exact h.one _ _ _ _ h1 h2
      · exact ⟨fun e => absurd (by rw [← e]; exact (h.live _ _ h1).1) ha, fun e => absurd (by rw [← e]; exact (h.live _ _ h1).2) hb⟩
    · rcases h2 with h2 | ⟨rfl, rfl⟩
      · exact ⟨fun e => absurd (by rw [e]; exact (h.live _ _ h2).1) ha, fun e => absurd (by rw [e]; exact (h.live _ _ h2).2) hb⟩
      · exact ⟨fun _ => rfl, fun _ => rfl⟩
  · rcases hxy with hxy | ⟨rfl, rfl⟩
    · exact ⟨.inl (h.live _ _ hxy).1, .inl (h.live _ _ hxy).2⟩
    · exact ⟨.inr rfl, .inr rfl⟩
  · show upd k1.file a ⟨[], [], []⟩ x = upd k2.file b ⟨[], [], []⟩ y
    rcases hxy with hxy | ⟨rfl, rfl⟩
    · rw [upd_other _ _ _ _ (fun e => ha (by rw [← e]; exact (h.live _ _ hxy).1)), upd_other _ _ _ _ (fun e => hb (by rw [← e]; exact (h.live _ _ hxy).2))]
      exact h.file _ _ hxy
    · rw [upd_same, upd_same]
end Go.Proofs.Ytadflolbgcdncaa

/-! Alike disks stay alike. -/
namespace Go.Proofs.Ytadflolbgcdncaa
open Go.RowKit Go.Maps Plain
set_option linter.unusedVariables false
set_option linter.unusedSimpArgs false

/-- Both answer the same, and stay alike. -/
def AlikeR (R : Rel) (x y : Int × Dk) : Prop := x.1 = y.1 ∧ ∃ R', Sib R' x.2 y.2
theorem Sib.same {R : Rel} {k1 k2 : Dk} (h : Sib R k1 k2) (e : Int) : AlikeR R (e, k1) (e, k2) := ⟨rfl, R, h⟩
theorem uses_self (k : Dk) : k.uses k.used = k := rfl

theorem create_R {R : Rel} {k1 k2 : Dk} {a b : Nat} {s : ByteArray} (h : Sib R k1 k2) (hd : k1.dead = k2.dead) (hc : k1.can = true) (hc2 : k2.can = true) (ha : ¬ k1.live a) (hb : ¬ k2.live b) : AlikeR R (createK k1 s a) (createK k2 s b) := by
  unfold createK
  rw [hd, h.L.len, hc, hc2]
  have hl : (look k1.L s.data.toList).isSome = (look k2.L s.data.toList).isSome := by
    rcases h.L.look s.data.toList with ⟨e1, e2⟩ | ⟨x, y, e1, e2, _⟩ <;> rw [e1, e2]
    rfl
  rw [hl]
  split
  · exact h.same _
  · split
    · exact h.same _
    · split
      · exact h.same _
      · rw [if_pos rfl, if_pos rfl]
        have h1 := (h.spent.addFile (a := a) (b := b) ha hb).did (c1 := DC.mk s.data.toList a) (c2 := DC.mk s.data.toList b) (.inl ⟨_, _, _, rfl, rfl, .inr ⟨rfl, rfl⟩⟩) k1.used
        refine ⟨rfl, (fun x y => R x y ∨ (x = a ∧ y = b)), ?_⟩
        have e2 : (k2.spent.addFile b).uses k1.used = k2.spent.addFile b := by rw [h.used]; rfl
        rw [e2] at h1
        exact h1
theorem append_R {R : Rel} {k1 k2 : Dk} {s : ByteArray} {l : List Nat} (h : Sib R k1 k2) (hd : k1.dead = k2.dead) (hc : k1.can = true) (hc2 : k2.can = true) : AlikeR R (appendK k1 s l) (appendK k2 s l) := by
  unfold appendK
  rw [h.find hd, h.used, h.quota, hc, hc2]
  split
  · split
    · exact h.same _
    · rcases h.L.look s.data.toList with ⟨e1, e2⟩ | ⟨a, b, e1, e2, hab⟩
      · rw [e1, e2]; exact h.same _
      · rw [e1, e2]
        have := h.spent.setFile hab ((k1.file a).add l) (k2.used + l.length)
        refine ⟨rfl, R, ?_⟩
        simp only [if_true]
        rw [← h.file a b hab]
        exact this
  · exact h.same _
theorem trunc_R {R : Rel} {k1 k2 : Dk} {s : ByteArray} {m : Int} (h : Sib R k1 k2) (hd : k1.dead = k2.dead) (hc : k1.can = true) (hc2 : k2.can = true) : AlikeR R (truncK k1 s m) (truncK k2 s m) := by
  unfold truncK
  rw [h.find hd, h.used, hc, hc2]
  split
  · rcases h.L.look s.data.toList with ⟨e1, e2⟩ | ⟨a, b, e1, e2, hab⟩
    · rw [e1, e2]; exact h.same _
    · rw [e1, e2]
      simp only [if_true]
      rw [h.file a b hab]
      split
      · exact h.same _
      · have := h.spent.setFile hab ((k2.file b).trim m.toNat) (k2.used - ((k2.file b).seen.length - m))
        exact ⟨rfl, R, this⟩
  · exact h.same _
theorem sync_R {R : Rel} {k1 k2 : Dk} {s : ByteArray} (h : Sib R k1 k2) (hd : k1.dead = k2.dead) (hc : k1.can = true) (hc2 : k2.can = true) : AlikeR R (syncK k1 s) (syncK k2 s) := by
  unfold syncK
  rw [h.find hd, hc, hc2]
  split
  · rcases h.L.look s.data.toList with ⟨e1, e2⟩ | ⟨a, b, e1, e2, hab⟩
    · rw [e1, e2]; exact h.same _
    · rw [e1, e2]
      simp only [if_true]
      rw [h.file a b hab]
      have := h.spent.setFile hab ⟨(k2.file b).seen, (k2.file b).seen, []⟩ k1.used
      have e2' : (k2.spent.setFile b ⟨(k2.file b).seen, (k2.file b).seen, []⟩).uses k1.used = k2.spent.setFile b ⟨(k2.file b).seen, (k2.file b).seen, []⟩ := by rw [h.used]; rfl
      rw [e2'] at this
      exact ⟨rfl, R, this⟩
  · exact h.same _
theorem syncDir_R {R : Rel} {k1 k2 : Dk} (h : Sib R k1 k2) (hd : k1.dead = k2.dead) (hc : k1.can = true) (hc2 : k2.can = true) : AlikeR R (syncDirK k1) (syncDirK k2) := by
  unfold syncDirK
  rw [hd, hc, hc2]
  split
  · exact h.same _
  · rw [if_pos rfl, if_pos rfl]
    exact ⟨rfl, R, h.spent.settled⟩
theorem rename_R {R : Rel} {k1 k2 : Dk} {s t : ByteArray} (h : Sib R k1 k2) (hd : k1.dead = k2.dead) (hc : k1.can = true) (hc2 : k2.can = true) : AlikeR R (renameK k1 s t) (renameK k2 s t) := by
  unfold renameK
  rw [h.find hd, hd, h.used, h.size t, hc, hc2]
  split
  · exact h.same _
  · split
    · exact h.same _
    · split
      · rw [if_pos rfl, if_pos rfl]
        exact ⟨rfl, R, h.spent.did (.inr (.inl ⟨_, _, rfl, rfl⟩)) _⟩
      · exact h.same _
theorem remove_R {R : Rel} {k1 k2 : Dk} {s : ByteArray} (h : Sib R k1 k2) (hd : k1.dead = k2.dead) (hc : k1.can = true) (hc2 : k2.can = true) : AlikeR R (removeK k1 s) (removeK k2 s) := by
  unfold removeK
  rw [h.find hd, h.used, h.size s, hc, hc2]
  split
  · rw [if_pos rfl, if_pos rfl]
    exact ⟨rfl, R, h.spent.did (.inr (.inr ⟨_, rfl, rfl⟩)) _⟩
  · exact h.same _
theorem chK_R {R : Rel} {k1 k2 : Dk} {a b : Nat} {kd m : Int} {nm to : ByteArray} {l : List Nat} (h : Sib R k1 k2) (hd : k1.dead = k2.dead) (hc : k1.can = true) (hc2 : k2.can = true) (ha : ¬ k1.live a) (hb : ¬ k2.live b) : AlikeR R (chK k1 kd nm to m l a) (chK k2 kd nm to m l b) := by
  unfold chK
  split
  · exact create_R h hd hc hc2 ha hb
  · split
    · exact append_R h hd hc hc2
    · split
      · exact trunc_R h hd hc hc2
      · split
        · exact sync_R h hd hc hc2
        · split
          · exact syncDir_R h hd hc hc2
          · split
            · exact rename_R h hd hc hc2
            · exact remove_R h hd hc hc2
/-- Two disks that have begun are alike. -/
theorem bg_R (q : Int) (a b : Nat) : ∃ R, Sib R (bg q a) (bg q b) := by
  have key : ∀ (x y : Dk), (∀ f : Fl, x.L = [(kF, a)] → True) → True := fun _ _ _ => trivial
  unfold bg
  split
  · refine ⟨fun x y => x = a ∧ y = b, fun x y x' y' h1 h2 => ?_, fun x y h => ?_, fun x y h => ?_, ⟨⟨rfl, rfl, rfl⟩, trivial⟩, trivial, ⟨.inl ⟨_, _, _, rfl, rfl, rfl, rfl⟩, trivial⟩, rfl, rfl⟩
    · obtain ⟨rfl, rfl⟩ := h1; obtain ⟨rfl, rfl⟩ := h2; exact ⟨fun _ => rfl, fun _ => rfl⟩
    · obtain ⟨rfl, rfl⟩ := h; exact ⟨.inr rfl, .inr rfl⟩
    · obtain ⟨rfl, rfl⟩ := h
      show upd F0 x ⟨[], [], []⟩ x = upd F0 y ⟨[], [], []⟩ y
      rw [upd_same, upd_same]
  · refine ⟨fun x y => x = a ∧ y = b, fun x y x' y' h1 h2 => ?_, fun x y h => ?_, fun x y h => ?_, ⟨⟨rfl, rfl, rfl⟩, trivial⟩, trivial, ⟨.inl ⟨_, _, _, rfl, rfl, rfl, rfl⟩, trivial⟩, rfl, rfl⟩
    · obtain ⟨rfl, rfl⟩ := h1; obtain ⟨rfl, rfl⟩ := h2; exact ⟨fun _ => rfl, fun _ => rfl⟩
    · obtain ⟨rfl, rfl⟩ := h; exact ⟨.inr rfl, .inr rfl⟩
    · obtain ⟨rfl, rfl⟩ := h
      show upd (upd F0 x ⟨[], [], []⟩) x ⟨[7], [], [FC.add [7]]⟩ x = upd (upd F0 y ⟨[], [], []⟩) y ⟨[7], [], [FC.add [7]]⟩ y
      rw [upd_same, upd_same]
end Go.Proofs.Ytadflolbgcdncaa

/-! Of past directories; disks whose power goes, or is off. -/
namespace Go.Proofs.Ytadflolbgcdncaa
open Go.RowKit Go.Maps Plain
set_option linter.unusedVariables false
set_option linter.unusedSimpArgs false

/-- The files of the past directories are there. -/
structure Dk.Past (k : Dk) : Prop where
  ld : ∀ p ∈ k.Ld, k.live p.2
  made : ∀ nm g, DC.mk nm g ∈ k.chg → k.live g
  few : k.Ld.length ≤ 65536
theorem on_mem {L : Dir} {c : DC} {p : Nm × Nat} (h : p ∈ DC.on L c) : p ∈ L ∨ (∃ nm, c = DC.mk nm p.2) ∨ ∃ q ∈ L, q.2 = p.2 := by
  cases c using DC.elim with
  | mk k g =>
    rw [DC.on_mk] at h
    rcases mem_put h with rfl | h
    · exact .inr (.inl ⟨k, rfl⟩)
    · exact .inl h
  | mv a b =>
    rw [DC.on_mv] at h
    cases e : look L a with
    | none => rw [e] at h; exact .inl h
    | some g =>
      rw [e] at h
      rcases mem_put (mem_del h) with rfl | h
      · exact .inr (.inr ⟨_, look_mem e, rfl⟩)
      · exact .inl h
  | rm k =>
    rw [DC.on_rm] at h
    exact .inl (mem_del h)
theorem dst_live {lv : Nat → Prop} : ∀ (cs : List DC) (L : Dir), (∀ p ∈ L, lv p.2) → (∀ nm g, DC.mk nm g ∈ cs → lv g) → ∀ p ∈ dst L cs, lv p.2
  | [], L, h1, h2, p, hp => h1 p hp
  | c :: cs, L, h1, h2, p, hp => dst_live cs (DC.on L c) (fun q hq => by
      rcases on_mem hq with h | ⟨nm, h⟩ | ⟨r, hr, e⟩
      · exact h1 q h
      · exact h2 nm q.2 (by rw [← h]; simp)
      · rw [← e]; exact h1 r hr) (fun nm g hg => h2 nm g (List.mem_cons_of_mem _ hg)) p hp
theorem on_len (L : Dir) (c : DC) : (DC.on L c).length ≤ L.length + 1 := by
  cases c using DC.elim with
  | mk k g => rw [DC.on_mk]; exact len_put _ _ _
  | mv a b =>
    rw [DC.on_mv]
    cases e : look L a with
    | none => show L.length ≤ _; omega
    | some g =>
      show (del (put L b g) a).length ≤ _
      have h1 := len_del (put L b g) a
      have h2 := len_put L b g
      omega
  | rm k => rw [DC.on_rm]; have := len_del L k; omega
theorem dst_len : ∀ (cs : List DC) (L : Dir), (dst L cs).length ≤ L.length + cs.length
  | [], L => by show L.length ≤ _; simp
  | c :: cs, L => by
    have h1 := dst_len cs (DC.on L c)
    have h2 := on_len L c
    show (dst (DC.on L c) cs).length ≤ _
    rw [List.length_cons]
    omega
theorem Dk.Past.crash {k : Dk} {n : Nat} (h : k.Past) (hd : k.Dok n) (hn : n ≤ 2000000000000) (ps : List Int) : (∀ p ∈ crL k ps, k.live p.2) ∧ (crL k ps).length ≤ 2199023255000 := by
  refine ⟨dst_live _ _ h.ld (fun nm g hg => h.made nm g (List.mem_of_mem_take hg)), ?_⟩
  have h1 := dst_len (k.chg.take (upV ps k.chg.length)) k.Ld
  have h2 := h.few
  have h3 := hd.cnt
  have h4 : (k.chg.take (upV ps k.chg.length)).length ≤ k.chg.length := by rw [List.length_take]; omega
  unfold crL
  omega
theorem Dk.Past.chK {k : Dk} {n G : Nat} {kd m : Int} {nm to : ByteArray} {l : List Nat} (h : k.Past) (hd : k.Dok n) : (chK k kd nm to m l G).2.Past := by
  have same : ∀ k' : Dk, k'.Ld = k.Ld → k'.chg = k.chg → k'.live = k.live → k'.Past := fun k' e1 e2 e3 => ⟨by rw [e1, e3]; exact h.ld, by rw [e2, e3]; exact h.made, by rw [e1]; exact h.few⟩
  have did : ∀ (k' : Dk) (c : DC), k'.Ld = k.Ld → k'.chg = k.chg ++ [c] → k'.live = k.live → (∀ nm g, c ≠ DC.mk nm g) → k'.Past := fun k' c e1 e2 e3 hc => ⟨by rw [e1, e3]; exact h.ld, fun nm g hg => by
    rw [e2] at hg
    rcases List.mem_append.mp hg with hg | hg
    · rw [e3]; exact h.made nm g hg
    · simp at hg; exact absurd hg.symm (hc nm g), by rw [e1]; exact h.few⟩
  unfold Go.Proofs.Ytadflolbgcdncaa.chK
  split
  · unfold createK
    split
    · exact h
    · split
      · exact h
      · split
        · exact h
        · split
          · refine ⟨fun p hp => .inl (h.ld p hp), fun nm' g hg => ?_, h.few⟩
            have hg' : DC.mk nm' g ∈ k.chg ++ [DC.mk nm.data.toList G] := hg
            rcases List.mem_append.mp hg' with hg | hg
            · exact .inl (h.made nm' g hg)
            · simp at hg
              have e : (nm', g) = (nm.data.toList, G) := Sum.inl.inj hg
              exact .inr (by simpa using (Prod.mk.inj e).2)
          · exact same _ rfl rfl rfl
  · split
    · unfold appendK
      split
      · split
        · exact h
        · split
          · split
            · exact same _ rfl rfl rfl
            · exact same _ rfl rfl rfl
          · exact h
      · exact h
    · split
      · unfold truncK
        split
        · split
          · split
            · exact h
            · split
              · exact same _ rfl rfl rfl
              · exact same _ rfl rfl rfl
          · exact h
        · exact h
      · split
        · unfold syncK
          split
          · split
            · split
              · exact same _ rfl rfl rfl
              · exact same _ rfl rfl rfl
            · exact h
          · exact h
        · split
          · unfold syncDirK
            split
            · exact h
            · split
              · exact ⟨hd.ok.refs, (fun nm g hg => absurd hg (by intro hh; exact (List.not_mem_nil hh).elim)), hd.few⟩
              · exact same _ rfl rfl rfl
          · split
            · unfold renameK
              split
              · exact h
              · split
                · exact h
                · split
                  · split
                    · exact did _ _ rfl rfl rfl (fun _ _ e => by cases e)
                    · exact same _ rfl rfl rfl
                  · exact h
            · unfold removeK
              split
              · split
                · exact did _ _ rfl rfl rfl (fun _ _ e => by cases e)
                · exact same _ rfl rfl rfl
              · exact h
theorem bg_past (q : Int) (G : Nat) : (bg q G).Past := by
  unfold bg
  split
  · refine ⟨by simp [e1], fun nm g hg => ?_, by simp [e1]⟩
    have hg' : DC.mk nm g ∈ [DC.mk kF G] := hg
    simp at hg'
    have e : (nm, g) = (kF, G) := Sum.inl.inj hg'
    exact .inr (Prod.mk.inj e).2
  · refine ⟨by simp [e2], fun nm g hg => ?_, by simp [e2]⟩
    have hg' : DC.mk nm g ∈ [DC.mk kF G] := hg
    simp at hg'
    have e : (nm, g) = (kF, G) := Sum.inl.inj hg'
    exact .inr (Prod.mk.inj e).2

/-- A disk without power refuses every change. -/
theorem chK_dead {k : Dk} {G : Nat} {kd m : Int} {nm to : ByteArray} {l : List Nat} (h : k.dead = true) : chK k kd nm to m l G = (34, k) := by
  have h1 : ∀ ns, rdy k.dead ns = 34 := fun ns => by unfold rdy; rw [h]; rfl
  have h2 : ∀ s, (fnd k.dead k.L s).2 = 34 := fun s => by unfold fnd; rw [h]; rfl
  have c1 : createK k nm G = (34, k) := by unfold createK; rw [h1, if_pos (by simp)]
  have c2 : appendK k nm l = (34, k) := by unfold appendK; rw [if_neg (by rw [h2]; simp), h2]
  have c3 : truncK k nm m = (34, k) := by unfold truncK; rw [if_neg (by rw [h2]; simp), h2]
  have c4 : syncK k nm = (34, k) := by unfold syncK; rw [if_neg (by rw [h2]; simp), h2]
  have c5 : syncDirK k = (34, k) := by unfold syncDirK; rw [if_pos h]
  have c6 : renameK k nm to = (34, k) := by unfold renameK; rw [h1, if_pos (by simp)]
  have c7 : removeK k nm = (34, k) := by unfold removeK; rw [if_neg (by rw [h2]; simp), h2]
  unfold chK
  rw [c1, c2, c3, c4, c5, c6, c7]
  repeat' split
  all_goals rfl
/-- Of a change that a disk with power does, the same disk, whose fuse is at its end, loses its power; what is refused there is refused here. -/
theorem chK_stuck {R : Rel} {k1 k2 : Dk} {a b : Nat} {kd m : Int} {nm to : ByteArray} {l : List Nat} (h : Sib R k1 k2) (hd : k1.dead = k2.dead) (h1 : k1.dead = false) (hc : k1.can = true) (hc2 : k2.can = false) :
    ((chK k1 kd nm to m l a).1 = 0 → chK k2 kd nm to m l b = (34, k2.spent)) ∧ ((chK k1 kd nm to m l a).1 ≠ 0 → chK k2 kd nm to m l b = ((chK k1 kd nm to m l a).1, k2) ∧ (chK k1 kd nm to m l a).2 = k1) := by
  have hf := fun s => h.find hd s
  have hl : ∀ s, (look k1.L s).isSome = (look k2.L s).isSome := fun s => by
    rcases h.L.look s with ⟨e1, e2⟩ | ⟨x, y, e1, e2, _⟩ <;> rw [e1, e2]
    rfl
  unfold chK
  split
  · unfold createK
    rw [← hd, ← hl, ← h.L.len, hc, hc2]
    split
    · exact ⟨fun e => by contradiction, fun _ => ⟨rfl, rfl⟩⟩
    · split
      · exact ⟨fun e => by simp at e, fun _ => ⟨rfl, rfl⟩⟩
      · split
        · exact ⟨fun e => by simp at e, fun _ => ⟨rfl, rfl⟩⟩
        · exact ⟨fun _ => rfl, fun e => absurd rfl e⟩
  · split
    · unfold appendK
      rw [← hf, ← h.used, ← h.quota, hc, hc2]
      split
      · split
        · exact ⟨fun e => by simp at e, fun _ => ⟨rfl, rfl⟩⟩
        · rcases h.L.look nm.data.toList with ⟨e1, e2⟩ | ⟨x, y, e1, e2, _⟩
          · rw [e1, e2]; exact ⟨fun e => by simp at e, fun _ => ⟨rfl, rfl⟩⟩
          · rw [e1, e2]; exact ⟨fun _ => rfl, fun e => absurd rfl e⟩
      · exact ⟨fun e => by contradiction, fun _ => ⟨rfl, rfl⟩⟩
    · split
      · unfold truncK
        rw [← hf, hc, hc2]
        split
        · rcases h.L.look nm.data.toList with ⟨e1, e2⟩ | ⟨x, y, e1, e2, hxy⟩
          · rw [e1, e2]; exact ⟨fun e => by simp at e, fun _ => ⟨rfl, rfl⟩⟩
          · rw [e1, e2]
            simp only
            rw [h.file x y hxy]
            split
            · exact ⟨fun e => by simp at e, fun _ => ⟨rfl, rfl⟩⟩
            · exact ⟨fun _ => rfl, fun e => absurd rfl e⟩
        · exact ⟨fun e => by contradiction, fun _ => ⟨rfl, rfl⟩⟩
      · split
        · unfold syncK
          rw [← hf, hc, hc2]
          split
          · rcases h.L.look nm.data.toList with ⟨e1, e2⟩ | ⟨x, y, e1, e2, hxy⟩
            · rw [e1, e2]; exact ⟨fun e => by simp at e, fun _ => ⟨rfl, rfl⟩⟩
            · rw [e1, e2]; exact ⟨fun _ => rfl, fun e => absurd rfl e⟩
          · exact ⟨fun e => by contradiction, fun _ => ⟨rfl, rfl⟩⟩
        · split
          · unfold syncDirK
            rw [← hd, h1, hc, hc2]
            exact ⟨fun _ => rfl, fun e => absurd rfl e⟩
          · split
            · unfold renameK
              rw [← hf, ← hd, hc, hc2]
              split
              · exact ⟨fun e => by contradiction, fun _ => ⟨rfl, rfl⟩⟩
              · split
                · exact ⟨fun e => by simp at e, fun _ => ⟨rfl, rfl⟩⟩
                · split
                  · exact ⟨fun _ => rfl, fun e => absurd rfl e⟩
                  · exact ⟨fun e => by contradiction, fun _ => ⟨rfl, rfl⟩⟩
            · unfold removeK
              rw [← hf, hc, hc2]
              split
              · exact ⟨fun _ => rfl, fun e => absurd rfl e⟩
              · exact ⟨fun e => by contradiction, fun _ => ⟨rfl, rfl⟩⟩
end Go.Proofs.Ytadflolbgcdncaa

/-! Images that are held against each other; what a disk without power answers. -/
namespace Go.Proofs.Ytadflolbgcdncaa
open Go.RowKit Go.Maps Plain
set_option linter.unusedVariables false
set_option linter.unusedSimpArgs false

/-- v is a slice of files that reads as im. -/
def ImR (w : World) (v : Value) (im : List (Nm × List Nat)) : Prop := ∃ a cap, v = .slice a im.length cap ∧ im.length ≤ cap ∧ cap ≤ 2 ^ 63 - 1 ∧ (im ≠ [] → ∃ b, a = some ⟨b, 0, none⟩ ∧ ∀ j k l, im[j]? = some (k, l) → ∃ ad nd cd, w.cell? ⟨b, j * 2, none⟩ = some (.string (str k)) ∧ w.cell? ⟨b, j * 2 + 1, none⟩ = some (.slice ad nd cd) ∧ BytesAt w (.slice ad nd cd) l)
theorem ImgAt.read {w : World} {v : Value} {im : List (Nm × List Nat)} {base : Nat} (h : ImgAt w v im base) : ImR w v im := by
  obtain ⟨ts, r, blk, hm⟩ := h
  have hl := hm.len
  rcases hm.row with ⟨rfl, rfl, _⟩ | ⟨g, cap, hr, rfl, hg, h1, h2, h3, h4, h5⟩
  · have : im = [] := List.eq_nil_of_length_eq_zero (by simpa using hl.symm)
    subst this
    exact ⟨none, 0, rfl, by simp, by omega, by simp⟩
  · unfold maxLen at h2
    refine ⟨_, cap, by rw [hl], by omega, by omega, fun _ => ⟨g, rfl, fun j k l hj => ?_⟩⟩
    have hjl := (List.getElem?_eq_some_iff.mp hj).1
    obtain ⟨dv, e1, ho⟩ := hm.one j (k, l) hj
    have hrow := hm.row
    rw [hr] at hrow
    obtain ⟨c0, c1⟩ := hrow.at (j := j) (by omega)
    have e2 : ts.getD j Fi.none = ⟨str k, dv⟩ := by simp [List.getD_eq_getElem?_getD, e1]
    rw [e2] at c0 c1
    obtain ⟨a', n', c', rfl⟩ := isSliceO ho
    exact ⟨a', n', c', c0, c1, ho.bytes⟩
/-- An image stays while its own blocks stay. -/
theorem ImgAt.hold {u w : World} {v : Value} {im : List (Nm × List Nat)} {lo : Nat} (h : ImgAt u v im lo) (hs : u.heap.size ≤ w.heap.size) (hb : ∀ x, lo ≤ x → x < u.heap.size → w.heap[x]? = u.heap[x]?) : ImgAt w v im lo := by
  obtain ⟨ts, r, blk, hm⟩ := h
  have hrow : OwnI w v ts r := by
    rcases hm.row with h0 | ⟨g, cap, rfl, rfl, hg, h1, h2, h3, h4, h5⟩
    · exact .inl h0
    · have e := hb g (hm.rbase g rfl) hg
      refine .inr ⟨g, cap, rfl, rfl, Nat.lt_of_lt_of_le hg hs, h1, h2, fun j hj => ?_, fun j hj => ?_, fun j hj => ?_⟩
      · rw [World.frozen?_of_block (w := u) (a := ⟨g, j, none⟩) e]; exact h3 j hj
      · rw [World.cell?_of_block (w := u) (a := ⟨g, j, none⟩) e]; exact h4 j hj
      · rw [World.cell?_of_block (w := u) (a := ⟨g, j, none⟩) e]; exact h5 j hj
  exact ⟨ts, r, blk, hrow, hm.len, fun j p hp => by
    obtain ⟨dv, e1, ho⟩ := hm.one j p hp
    exact ⟨dv, e1, ho.of_block hs (fun g e => hb g (hm.bbase j g e).1 (hm.live e))⟩, hm.rbase, hm.bbase, hm.out, hm.apart⟩

set_option maxHeartbeats 4000000 in
set_option maxRecDepth 1000000 in
theorem sameImageEq (v1 v2 : Value) (im : List (Nm × List Nat)) (w : World) (h1 : ImR w v1 im) (h2 : ImR w v2 im) : Calls Try.prog 26 #[v1, v2] w fun e w' => e = .returned (.bool true) ∧ Below w.heap.size w w' := by
  obtain ⟨a1, c1, rfl, p1, p2, p3⟩ := h1
  obtain ⟨a2, c2, rfl, q1, q2, q3⟩ := h2
  have HP3 : Hid (im ≠ [] → ∃ b, a1 = some ⟨b, 0, none⟩ ∧ ∀ j k l, im[j]? = some (k, l) → ∃ ad nd cd, w.cell? ⟨b, j * 2, none⟩ = some (.string (str k)) ∧ w.cell? ⟨b, j * 2 + 1, none⟩ = some (.slice ad nd cd) ∧ BytesAt w (.slice ad nd cd) l) := p3
  have HQ3 : Hid (im ≠ [] → ∃ b, a2 = some ⟨b, 0, none⟩ ∧ ∀ j k l, im[j]? = some (k, l) → ∃ ad nd cd, w.cell? ⟨b, j * 2, none⟩ = some (.string (str k)) ∧ w.cell? ⟨b, j * 2 + 1, none⟩ = some (.slice ad nd cd) ∧ BytesAt w (.slice ad nd cd) l) := q3
  clear p3 q3
  go_enter Try.func26, Try.ntmps26
  go_wp2
  go_loopg [5] im.length (fun gk s5 wx => ∃ (i n : Nat), i + gk = im.length ∧ s5 = .int .i64 i ∧ wx = w.drewN n)
  case atStart => exact ⟨0, 0, by omega, rfl, rfl⟩
  case round =>
    obtain ⟨i, n, hi, rfl, hwr⟩ := hrel
    have HWR : Hid (wr = w.drewN n) := hwr
    clear hwr
    cases gk with
    | zero =>
      obtain rfl : i = im.length := by omega
      go_wp2
      go_ret
      exact ⟨rfl, by rw [HWR.out]; exact below_drewN' w n⟩
    | succ gk1 =>
      have hil : i < im.length := by omega
      have hne : im ≠ [] := by rintro rfl; simp at hil
      obtain ⟨⟨k, l⟩, hkl⟩ : ∃ p, im[i]? = some p := ⟨_, List.getElem?_eq_getElem hil⟩
      obtain ⟨b1, rfl, f1⟩ := HP3.out hne
      obtain ⟨b2, rfl, f2⟩ := HQ3.out hne
      obtain ⟨ad1, nd1, cd1, g1', g2', g3'⟩ := f1 i k l hkl
      obtain ⟨ad2, nd2, cd2, g4', g5', g6'⟩ := f2 i k l hkl
      have g1 : wr.cell? ⟨b1, i * 2, none⟩ = some (.string (str k)) := by rw [HWR.out]; exact g1'
      have g2 : wr.cell? ⟨b1, i * 2 + 1, none⟩ = some (.slice ad1 nd1 cd1) := by rw [HWR.out]; exact g2'
      have g3 : BytesAt wr (.slice ad1 nd1 cd1) l := by rw [HWR.out]; exact g3'.drewN n
      have g4 : wr.cell? ⟨b2, i * 2, none⟩ = some (.string (str k)) := by rw [HWR.out]; exact g4'
      have g5 : wr.cell? ⟨b2, i * 2 + 1, none⟩ = some (.slice ad2 nd2 cd2) := by rw [HWR.out]; exact g5'
      have g6 : BytesAt wr (.slice ad2 nd2 cd2) l := by rw [HWR.out]; exact g6'.drewN n
      clear g1' g2' g3' g4' g5' g6'
      have HSM : Hid (∀ nn, Calls Try.prog 16 #[.slice ad1 nd1 cd1, .slice ad2 nd2 cd2] (wr.drewN nn) fun e w' => e = .returned (.bool true) ∧ ∃ m, w' = (wr.drewN nn).drewN m) := fun nn => by
        have := sameBytes _ _ l l (wr.drewN nn) (g3.drewN nn) (g6.drewN nn)
        rw [decide_eq_true (rfl : l = l)] at this
        exact this
      have hsk : decide (str k ≠ str k) = false := by simp
      clear f1 f2 g3 g6 hkl hne
      generalize str k = sk at *
      go_wp2
      go_quiet (first | (go_at_call 16; exact Calls.quiet_of (HSM.out _)))
      go_wp2
      go_roundg gk1
      case measure => omega
      case rel => exact ⟨i + 1, _, by omega, by go_num, by rw [HWR.out, World.drewN_drewN]⟩

theorem readyDead {S : Nat → Prop} {w w1 : World} {d : Nat} {k : Dk} (h : St S w d k w1) (hd : k.dead = true) : Calls Try.prog 34 #[.pointer (some ⟨d, 0, none⟩), .slice none 0 0] w1 fun e w' => e = .returned (.int .i64 34) ∧ w' = w1 := by
  obtain ⟨ms, md, vc, rc, Sf, hm⟩ := h.at
  have := readyOf d k.dead [] _ w1 hm.at0.2 (StrsAt.none w1)
  rw [show rdy k.dead [] = 34 by unfold rdy; rw [hd]; rfl] at this
  exact this
theorem listDead {S : Nat → Prop} {w w1 : World} {d : Nat} {k : Dk} (h : St S w d k w1) (hd : k.dead = true) : Calls Try.prog 28 #[.pointer (some ⟨d, 0, none⟩)] w1 fun e w' => e = .returned (.tuple #[.slice none 0 0, .int .i64 34]) ∧ w' = w1 := by
  have HR : Hid (Calls Try.prog 34 #[.pointer (some ⟨d, 0, none⟩), .slice none 0 0] w1 fun e w' => e = .returned (.int .i64 34) ∧ w' = w1) := readyDead h hd
  clear h hd
  go_enter Try.func28, Try.ntmps28
  go_wp2_with fail
  refine HR.out.mono ?_
  rintro e w2 ⟨rfl, rfl⟩
  go_wp2
  go_ret2
  exact ⟨rfl, rfl⟩
theorem readDead {S : Nat → Prop} {w w1 : World} {d : Nat} {k : Dk} (h : St S w d k w1) (hd : k.dead = true) (s : ByteArray) (hs : s.size ≤ maxLen) (x y : Int) : Calls Try.prog 17 #[.pointer (some ⟨d, 0, none⟩), .string s, .int .i64 x, .int .i64 y] w1 fun e w' => e = .returned (.tuple #[.slice none 0 0, .int .i64 34]) ∧ Below w1.heap.size w1 w' := by
  have HF : Hid (Calls Try.prog 37 #[.pointer (some ⟨d, 0, none⟩), .string s] w1 fun e w' => e = .returned (.tuple #[.pointer none, .int .i64 34]) ∧ w' = w1.alloc (.cells #[.string s] 9)) := by
    have := findSt h s hs
    rw [show fnd k.dead k.L s = (.pointer none, 34) by unfold fnd; rw [hd]; rfl] at this
    exact this
  have HB : Hid (Below w1.heap.size w1 (w1.alloc (.cells #[.string s] 9))) := (Below.refl _ _).alloc (Nat.le_refl _) _
  clear h hd
  go_enter Try.func17, Try.ntmps17
  go_wp2_with fail
  refine HF.out.mono ?_
  rintro e w2 ⟨rfl, rfl⟩
  go_wp2
  go_ret2
  exact ⟨rfl, HB.out⟩
end Go.Proofs.Ytadflolbgcdncaa

/-! Two disks side by side; the law on the fuse: what is kept. -/
namespace Go.Proofs.Ytadflolbgcdncaa
open Go.RowKit Go.Maps Plain
set_option linter.unusedVariables false
set_option linter.unusedSimpArgs false

/-- Two disks that share nothing, and have nothing to do with the blocks Q. -/
def Duo (Q : Nat → Prop) (a b : Nat) (ka kb : Dk) (w : World) : Prop :=
  ∃ S T, DiskAt w a ka S ∧ DiskAt w b kb T ∧ (∀ x, S x → ¬ T x ∧ ¬ Q x) ∧ (∀ x, T x → ¬ Q x) ∧ ∀ x, Q x → x < w.heap.size
theorem Keep.sub {P Q : Nat → Prop} {W w : World} (h : Keep P W w) (hq : ∀ x, Q x → P x) : Keep Q W w := ⟨h.os, h.tape, h.output, h.size, fun x hx => h.lt x (hq x hx), fun x hx => h.block x (hq x hx)⟩
theorem Keep.trans {P : Nat → Prop} {W w w' : World} (h : Keep P W w) (k : Keep P w w') : Keep P W w' := ⟨k.os.trans h.os, k.tape.trans h.tape, k.output.trans h.output, Nat.le_trans h.size k.size, h.lt, fun x hx => (k.block x hx).trans (h.block x hx)⟩
theorem Duo.left {Q : Nat → Prop} {a b : Nat} {ka kb : Dk} {w : World} (h : Duo Q a b ka kb w) : ∃ P, DskP P w a ka w ∧ (∀ x, Q x → P x) ∧ ∀ ka' w', DskP P w a ka' w' → Duo Q a b ka' kb w' ∧ Keep Q w w' := by
  obtain ⟨S, T, h1, h2, h3, h4, h5⟩ := h
  refine ⟨fun x => Q x ∨ T x, ⟨Keep.refl (fun x hx => ?_), S, h1, fun x hx hp => ?_⟩, fun x hx => .inl hx, fun ka' w' hd => ?_⟩
  · rcases hx with hx | hx
    · exact h5 x hx
    · exact h2.rng x hx
  · rcases hp with hp | hp
    · exact (h3 x hx).2 hp
    · exact (h3 x hx).1 hp
  · obtain ⟨k1, S', d1, d2⟩ := hd
    refine ⟨⟨S', T, d1, h2.frame k1.size (fun x hx => k1.block x (.inr hx)), fun x hx => ⟨fun ht => d2 x hx (.inr ht), fun hq => d2 x hx (.inl hq)⟩, h4, fun x hx => Nat.lt_of_lt_of_le (h5 x hx) k1.size⟩, k1.sub (fun x hx => .inl hx)⟩
theorem Duo.right {Q : Nat → Prop} {a b : Nat} {ka kb : Dk} {w : World} (h : Duo Q a b ka kb w) : ∃ P, DskP P w b kb w ∧ (∀ x, Q x → P x) ∧ ∀ kb' w', DskP P w b kb' w' → Duo Q a b ka kb' w' ∧ Keep Q w w' := by
  obtain ⟨S, T, h1, h2, h3, h4, h5⟩ := h
  refine ⟨fun x => Q x ∨ S x, ⟨Keep.refl (fun x hx => ?_), T, h2, fun x hx hp => ?_⟩, fun x hx => .inl hx, fun kb' w' hd => ?_⟩
  · rcases hx with hx | hx
    · exact h5 x hx
    · exact h1.rng x hx
  · rcases hp with hp | hp
    · exact h4 x hx hp
    · exact (h3 x hp).1 hx
  · obtain ⟨k1, T', d1, d2⟩ := hd
    refine ⟨⟨S, T', h1.frame k1.size (fun x hx => k1.block x (.inr hx)), d1, fun x hx => ⟨fun ht => d2 x ht (.inr hx), (h3 x hx).2⟩, fun x hx hq => d2 x hx (.inl hq), fun x hx => Nat.lt_of_lt_of_le (h5 x hx) k1.size⟩, k1.sub (fun x hx => .inl hx)⟩
theorem Duo.later {Q : Nat → Prop} {a b : Nat} {ka kb : Dk} {w w' : World} (h : Duo Q a b ka kb w) (hb : Below w.heap.size w w') : Duo Q a b ka kb w' := by
  obtain ⟨S, T, h1, h2, h3, h4, h5⟩ := h
  exact ⟨S, T, h1.later hb, h2.later hb, h3, h4, fun x hx => Nat.lt_of_lt_of_le (h5 x hx) hb.size⟩
/-- What has come since is guarded too. -/
theorem Duo.guard {Q : Nat → Prop} {a b : Nat} {ka kb : Dk} {w w' : World} (h : Duo Q a b ka kb w) (hb : Below w.heap.size w w') : Duo (fun x => Q x ∨ (w.heap.size ≤ x ∧ x < w'.heap.size)) a b ka kb w' := by
  obtain ⟨S, T, h1, h2, h3, h4, h5⟩ := h
  have hs := hb.size
  refine ⟨S, T, h1.later hb, h2.later hb, fun x hx => ⟨(h3 x hx).1, fun hq => ?_⟩, fun x hx hq => ?_, fun x hx => ?_⟩
  · rcases hq with hq | hq
    · exact (h3 x hx).2 hq
    · have := h1.rng x hx; omega
  · rcases hq with hq | hq
    · exact h4 x hx hq
    · have := h2.rng x hx; omega
  · rcases hx with hx | hx
    · have := h5 x hx; omega
    · exact hx.2
theorem Duo.unguard {Q Q' : Nat → Prop} {a b : Nat} {ka kb : Dk} {w : World} (h : Duo Q a b ka kb w) (hq : ∀ x, Q' x → Q x) : Duo Q' a b ka kb w := by
  obtain ⟨S, T, h1, h2, h3, h4, h5⟩ := h
  exact ⟨S, T, h1, h2, fun x hx => ⟨(h3 x hx).1, fun q => (h3 x hx).2 (hq x q)⟩, fun x hx q => h4 x hx (hq x q), fun x hx => h5 x (hq x hx)⟩
/-- A second disk of new memory, beside a first one. -/
theorem Dsk.duo {W w1 w2 : World} {a b : Nat} {ka kb : Dk} (h1 : Dsk W a ka w1) (h2 : Dsk w1 b kb w2) : Duo (fun x => x < W.heap.size) a b ka kb w2 ∧ Below W.heap.size W w2 := by
  obtain ⟨b1, S, d1, s1⟩ := h1
  obtain ⟨b2, T, d2, s2⟩ := h2
  have hs := b1.size
  refine ⟨⟨S, T, d1.later b2, d2, fun x hx => ⟨fun ht => ?_, fun hq => ?_⟩, fun x hx hq => ?_, fun x hx => ?_⟩, b1.trans (b2.mono hs)⟩
  · have := s2 x ht; have := d1.rng x hx; omega
  · have := s1 x hx; omega
  · have := s2 x hx; omega
  · have := b2.size; omega
theorem deadP {P : Nat → Prop} {W w1 : World} {d : Nat} {k : Dk} (h : DskP P W d k w1) : Calls Try.prog 33 #[.pointer (some ⟨d, 0, none⟩)] w1 fun e w2 => e = .returned (.bool k.dead) ∧ w2 = w1 := by
  obtain ⟨h1, S, h2, h3⟩ := h
  exact deadOf (St.start h2)
theorem opsP {P : Nat → Prop} {W w1 : World} {d : Nat} {k : Dk} (h : DskP P W d k w1) : Calls Try.prog 32 #[.pointer (some ⟨d, 0, none⟩)] w1 fun e w2 => e = .returned (.int .i64 k.ops) ∧ w2 = w1 := by
  obtain ⟨h1, S, h2, h3⟩ := h
  exact opsOf (St.start h2)
theorem fuseP {P : Nat → Prop} {W w1 : World} {d : Nat} {k : Dk} (h : DskP P W d k w1) (n : Int) (hn : I64 n) : Calls Try.prog 31 #[.pointer (some ⟨d, 0, none⟩), .int .i64 n] w1 fun e w2 => e = .returned (.tuple #[]) ∧ DskP P W d (fuseK k n) w2 := by
  obtain ⟨h1, S, h2, h3⟩ := h
  refine (fuseOf (St.start h2) n hn.1 hn.2).mono ?_
  rintro e w2 ⟨rfl, hp⟩
  exact ⟨rfl, DskP.ofSt h1 h3 hp⟩
theorem listDeadP {P : Nat → Prop} {W w1 : World} {d : Nat} {k : Dk} (h : DskP P W d k w1) (hd : k.dead = true) : Calls Try.prog 28 #[.pointer (some ⟨d, 0, none⟩)] w1 fun e w2 => e = .returned (.tuple #[.slice none 0 0, .int .i64 34]) ∧ w2 = w1 := by
  obtain ⟨h1, S, h2, h3⟩ := h
  exact listDead (St.start h2) hd
theorem readDeadP {P : Nat → Prop} {W w1 : World} {d : Nat} {k : Dk} (h : DskP P W d k w1) (hd : k.dead = true) (s : ByteArray) (hs : s.size ≤ maxLen) (x y : Int) : Calls Try.prog 17 #[.pointer (some ⟨d, 0, none⟩), .string s, .int .i64 x, .int .i64 y] w1 fun e w2 => e = .returned (.tuple #[.slice none 0 0, .int .i64 34]) ∧ Below w1.heap.size w1 w2 := by
  obtain ⟨h1, S, h2, h3⟩ := h
  exact readDead (St.start h2) hd s hs x y
theorem crashP {P : Nat → Prop} {W w1 : World} {d n : Nat} {k : Dk} {a : Option Addr} {m c : Nat} {ps : List Int} (h : DskP P W d k w1) (hk : k.Dok n) (hp : k.Past) (hn : n ≤ 2000000000000) (hps : PicksAt w1 (.slice a m c) ps) (hpo : PicksOff w1.heap.size (.slice a m c)) :
    Calls Try.prog 15 #[.pointer (some ⟨d, 0, none⟩), .slice a m c] w1 fun e w2 => ∃ a l c, e = .returned (.slice a l c) ∧ ImgAt w2 (.slice a l c) (crK k ps) w1.heap.size ∧ Below w1.heap.size w1 w2 := by
  obtain ⟨h1, S, h2, h3⟩ := h
  obtain ⟨c1, c2⟩ := hp.crash hk hn ps
  exact crashOf w1 d k n S h2 hk a m c ps hps hpo c1 c2

theorem spent_can {k : Dk} (h : k.can = true) : k.spent.ops = k.ops + 1 ∧ k.spent.left = (if k.fused then k.left - 1 else k.left) ∧ k.spent.dead = k.dead := by
  unfold Dk.can spd at h
  unfold Dk.spent spd
  split at h
  · simp at h
  · rename_i hh
    simp [hh]
theorem spent_not {k : Dk} (h : k.can = false) : k.spent.ops = k.ops ∧ k.spent.dead = true := by
  unfold Dk.can spd at h
  unfold Dk.spent spd
  split at h
  · rename_i hh
    simp [hh]
  · simp at h
/-- What is done is counted; what is refused leaves the disk. -/
theorem chK_flags {k : Dk} {G : Nat} {kd m : Int} {nm to : ByteArray} {l : List Nat} (hc : k.can = true) (hd : k.dead = false) :
    ((chK k kd nm to m l G).1 = 0 ∧ (chK k kd nm to m l G).2.ops = k.ops + 1 ∧ (chK k kd nm to m l G).2.fused = k.fused ∧ (chK k kd nm to m l G).2.left = (if k.fused then k.left - 1 else k.left) ∧ (chK k kd nm to m l G).2.dead = false) ∨
    ((chK k kd nm to m l G).1 ≠ 0 ∧ (chK k kd nm to m l G).2 = k) := by
  obtain ⟨s1, s2, s3⟩ := spent_can hc
  rw [hd] at s3
  have fin : ∀ k' : Dk, k'.ops = k.spent.ops → k'.fused = k.fused → k'.left = k.spent.left → k'.dead = k.spent.dead → k'.ops = k.ops + 1 ∧ k'.fused = k.fused ∧ k'.left = (if k.fused then k.left - 1 else k.left) ∧ k'.dead = false := fun k' a1 a2 a3 a4 => ⟨a1.trans s1, a2, a3.trans s2, a4.trans s3⟩
  unfold chK
  split
  · unfold createK
    rw [hc]
    split
    · rename_i h; exact .inr ⟨h, rfl⟩
    · split
      · exact .inr ⟨by simp, rfl⟩
      · split
        · exact .inr ⟨by simp, rfl⟩
        · exact .inl ⟨rfl, fin _ rfl rfl rfl rfl⟩
  · split
    · unfold appendK
      rw [hc]
      split
      · split
        · exact .inr ⟨by simp, rfl⟩
        · split
          · exact .inl ⟨rfl, fin _ rfl rfl rfl rfl⟩
          · exact .inr ⟨by simp, rfl⟩
      · rename_i h; exact .inr ⟨h, rfl⟩
    · split
      · unfold truncK
        rw [hc]
        split
        · split
          · split
            · exact .inr ⟨by simp, rfl⟩
            · exact .inl ⟨rfl, fin _ rfl rfl rfl rfl⟩
          · exact .inr ⟨by simp, rfl⟩
        · rename_i h; exact .inr ⟨h, rfl⟩
      · split
        · unfold syncK
          rw [hc]
          split
          · split
            · exact .inl ⟨rfl, fin _ rfl rfl rfl rfl⟩
            · exact .inr ⟨by simp, rfl⟩
          · rename_i h; exact .inr ⟨h, rfl⟩
        · split
          · unfold syncDirK
            rw [hc, hd]
            exact .inl ⟨rfl, fin _ rfl rfl rfl rfl⟩
          · split
            · unfold renameK
              rw [hc]
              split
              · rename_i h; exact .inr ⟨h, rfl⟩
              · split
                · exact .inr ⟨by simp, rfl⟩
                · split
                  · exact .inl ⟨rfl, fin _ rfl rfl rfl rfl⟩
                  · rename_i h; exact .inr ⟨h, rfl⟩
            · unfold removeK
              rw [hc]
              split
              · exact .inl ⟨rfl, fin _ rfl rfl rfl rfl⟩
              · rename_i h; exact .inr ⟨h, rfl⟩
end Go.Proofs.Ytadflolbgcdncaa

/-! The law on the fuse: what is kept from step to step. -/
namespace Go.Proofs.Ytadflolbgcdncaa
open Go.RowKit Go.Maps Plain
set_option linter.unusedVariables false
set_option linter.unusedSimpArgs false

/-- The first disk is on; the second one has a fuse, and goes with it up to its end; then it is off. -/
structure FInv (ka kb : Dk) (n base : Int) (m : Nat) : Prop where
  ad : ka.Dok m
  asum : ka.Sum
  ap : ka.Past
  aon : ka.On
  bd : kb.Dok m
  bsum : kb.Sum
  bp : kb.Past
  nn : 0 ≤ n ∧ n < 50
  base0 : 0 ≤ base ∧ base ≤ 2
  ge : base ≤ ka.ops
  ph : (kb.dead = false ∧ kb.fused = true ∧ kb.ops = ka.ops ∧ kb.left = n - (ka.ops - base) ∧ ka.ops - base ≤ n ∧ ∃ R, Sib R ka kb) ∨ (kb.dead = true ∧ ka.ops - base = n + 1)
theorem FInv.opsle {ka kb : Dk} {n base : Int} {m : Nat} (h : FInv ka kb n base m) : 0 ≤ ka.ops ∧ ka.ops ≤ 60 := by
  have h1 := h.ge
  have h2 := h.base0
  have h3 := h.nn
  rcases h.ph with ⟨_, _, _, _, h4, _⟩ | ⟨_, h4⟩ <;> omega
theorem FInv.mono {ka kb : Dk} {n base : Int} {m m' : Nat} (h : FInv ka kb n base m) (hm : m ≤ m') : FInv ka kb n base m' := ⟨h.ad.mono hm, h.asum, h.ap, h.aon, h.bd.mono hm, h.bsum, h.bp, h.nn, h.base0, h.ge, h.ph⟩
/-- Once it is off: the change is refused, and nothing has turned. -/
theorem FInv.off {ka kb : Dk} {n base : Int} {m G : Nat} {kd mm : Int} {nm to : ByteArray} {l : List Nat} (h : FInv ka kb n base m) (hd : kb.dead = true) : chK kb kd nm to mm l G = (34, kb) := chK_dead hd
theorem FInv.step {ka kb : Dk} {n base : Int} {m A B : Nat} {kd mm : Int} {nm to : ByteArray} {l : List Nat} (h : FInv ka kb n base m) (hd : kb.dead = false) (hs : nm.size ≤ maxLen) (ht : to.size ≤ maxLen) (hm : m ≤ 4398046511102) (hA : ¬ ka.live A) (hB : ¬ kb.live B) :
    FInv (chK ka kd nm to mm l A).2 (chK kb kd nm to mm l B).2 n base (m + 1) ∧
    (((chK ka kd nm to mm l A).1 = 0 ∧ (chK ka kd nm to mm l A).2.ops - base = n + 1 ∧ (chK kb kd nm to mm l B).1 = 34 ∧ (chK kb kd nm to mm l B).2.dead = true ∧ imK (chK kb kd nm to mm l B).2 = imK ka ∧ ∀ ps, crK (chK kb kd nm to mm l B).2 ps = crK ka ps) ∨
     (((chK ka kd nm to mm l A).1 ≠ 0 ∨ (chK ka kd nm to mm l A).2.ops - base ≠ n + 1) ∧ (chK ka kd nm to mm l A).1 = (chK kb kd nm to mm l B).1 ∧ (chK kb kd nm to mm l B).2.dead = false ∧ (chK kb kd nm to mm l B).2.ops = (chK ka kd nm to mm l A).2.ops ∧ imK (chK kb kd nm to mm l B).2 = imK (chK ka kd nm to mm l A).2 ∧ ∀ ps, crK (chK kb kd nm to mm l B).2 ps = crK (chK ka kd nm to mm l A).2 ps)) := by
  obtain ⟨p1, p2, p3, p4, p5, R, p6⟩ := h.ph.resolve_right (fun hx => by have := hx.1; rw [hd] at this; simp at this)
  have hca := h.aon.can
  have hda := h.aon.dead
  have d1 := chK_dok (kd := kd) (m := mm) (G := A) (l := l) h.ad h.asum.uok hs ht hm
  have d2 := chK_dok (kd := kd) (m := mm) (G := B) (l := l) h.bd h.bsum.uok hs ht hm
  have u1 := chK_sum (kd := kd) (m := mm) (nm := nm) (to := to) (l := l) h.asum h.ad.ok.refs hA
  have u2 := chK_sum (kd := kd) (m := mm) (nm := nm) (to := to) (l := l) h.bsum h.bd.ok.refs hB
  have o1 := (h.aon.chK (G := A) (kd := kd) (m := mm) (nm := nm) (to := to) (l := l)).1
  have a1 := h.ap.chK (G := A) (kd := kd) (m := mm) (nm := nm) (to := to) (l := l) h.ad
  have a2 := h.bp.chK (G := B) (kd := kd) (m := mm) (nm := nm) (to := to) (l := l) h.bd
  have fa := chK_flags (k := ka) (G := A) (kd := kd) (m := mm) (nm := nm) (to := to) (l := l) hca hda
  have hge := h.ge
  have mkI : base ≤ (chK ka kd nm to mm l A).2.ops → _ → FInv (chK ka kd nm to mm l A).2 (chK kb kd nm to mm l B).2 n base (m + 1) := fun g p => ⟨d1, u1, a1, o1, d2, u2, a2, h.nn, h.base0, g, p⟩
  cases hcb : kb.can with
  | true =>
    have hal := chK_R (a := A) (b := B) (kd := kd) (m := mm) (nm := nm) (to := to) (l := l) p6 (by rw [hda, p1]) hca hcb hA hB
    obtain ⟨e1, R', e2⟩ := hal
    have fb := chK_flags (k := kb) (G := B) (kd := kd) (m := mm) (nm := nm) (to := to) (l := l) hcb p1
    have hleft : kb.left ≠ 0 := fun e => by
      unfold Dk.can spd at hcb
      rw [p2, e] at hcb
      simp at hcb
    rcases fa with ⟨f1, f2, f3, f4, f5⟩ | ⟨f1, f2⟩
    · rcases fb with ⟨g1, g2, g3, g4, g5⟩ | ⟨g1, g2⟩
      · rw [p2] at g4
        simp only [if_true] at g4
        have hl0 : 0 ≤ kb.left := (h.bd.ok.fuse p2).1
        refine ⟨mkI (by omega) (.inl ⟨g5, by rw [g3, p2], by rw [g2, f2, p3], by rw [g4, f2, p4]; omega, by omega, R', e2⟩), .inr ⟨.inr (by omega), e1, g5, by rw [g2, f2, p3], e2.image.symm, fun ps => (e2.crash ps).symm⟩⟩
      · rw [e1] at f1; exact absurd f1 g1
    · rcases fb with ⟨g1, g2, g3, g4, g5⟩ | ⟨g1, g2⟩
      · rw [e1] at f1; exact absurd g1 f1
      · refine ⟨mkI (by rw [f2]; exact hge) ?_, .inr ⟨.inl f1, e1, by rw [g2]; exact p1, by rw [g2, f2]; exact p3, by rw [g2, f2]; exact p6.image.symm, fun ps => by rw [g2, f2]; exact (p6.crash ps).symm⟩⟩
        rw [g2, f2]
        exact .inl ⟨p1, p2, p3, p4, p5, R, p6⟩
  | false =>
    obtain ⟨t1, t2⟩ := chK_stuck (a := A) (b := B) (kd := kd) (m := mm) (nm := nm) (to := to) (l := l) p6 (by rw [hda, p1]) hda hca hcb
    have hleft : kb.left = 0 := by
      unfold Dk.can spd at hcb
      rw [p2] at hcb
      by_cases e : kb.left = 0
      · exact e
      · have : (kb.left == 0) = false := by simpa using e
        rw [this] at hcb
        simp at hcb
    rcases fa with ⟨f1, f2, f3, f4, f5⟩ | ⟨f1, f2⟩
    · have hb := t1 f1
      obtain ⟨s1, s2⟩ := spent_not hcb
      have hsb := p6.spentL
      refine ⟨mkI (by omega) ?_, .inl ⟨f1, by omega, by rw [hb], by rw [hb]; exact s2, by rw [hb]; exact hsb.image.symm, fun ps => by rw [hb]; exact (hsb.crash ps).symm⟩⟩
      rw [hb]
      exact .inr ⟨s2, by omega⟩
    · obtain ⟨hb, _⟩ := t2 f1
      refine ⟨mkI (by rw [f2]; exact hge) ?_, .inr ⟨.inl f1, by rw [hb], by rw [hb]; exact p1, by rw [hb, f2]; exact p3, by rw [hb, f2]; exact p6.image.symm, fun ps => by rw [hb, f2]; exact (p6.crash ps).symm⟩⟩
      rw [hb, f2]
      exact .inl ⟨p1, p2, p3, p4, p5, R, p6⟩
/-- The beginning. -/
theorem FInv.begin (q : Int) (a b : Nat) (h0 : 0 ≤ q) (h1 : q ≤ 1073741824) (n : Int) (hn : 0 ≤ n ∧ n < 50) : FInv (bg q a) (fuseK (bg q b) n) n (bg q b).ops 2 := by
  have hb := bg_dok q b h0 h1
  have hbs := bg_sum q b h0 h1
  have hbp := bg_past q b
  have hon := bg_on q b
  have hops : (bg q a).ops = (bg q b).ops ∧ 0 ≤ (bg q b).ops ∧ (bg q b).ops ≤ 2 := by
    unfold bg
    split
    · exact ⟨rfl, by show (0 : Int) ≤ 1; omega, by show (1 : Int) ≤ 2; omega⟩
    · exact ⟨rfl, by show (0 : Int) ≤ 2; omega, Int.le_refl _⟩
  obtain ⟨R, hR⟩ := bg_R q a b
  have hf : fuseK (bg q b) n = (bg q b).fuses n := by unfold fuseK; rw [hon.dead]; rfl
  rw [hf]
  obtain ⟨⟨b1, b2, b3, b4⟩, c2, c3, c4, c5⟩ := hb
  obtain ⟨r1, r2, r3, r4, r5, r6, r7, r8⟩ := hR
  refine ⟨bg_dok q a h0 h1, bg_sum q a h0 h1, bg_past q a, bg_on q a, ⟨⟨b1, b2, b3, fun _ => ⟨hn.1, by show n ≤ _; omega⟩⟩, c2, c3, c4, c5⟩, ⟨hbs.keys, hbs.files, hbs.used, hbs.quota, hbs.lim⟩, ⟨hbp.ld, hbp.made, hbp.few⟩, hn, ⟨hops.2.1, hops.2.2⟩, by rw [hops.1]; exact Int.le_refl _, .inl ⟨hon.dead, by show decide (0 ≤ n) = true; simp [hn.1], hops.1.symm, ?_, ?_, R, ⟨r1, r2, r3, r4, r5, r6, r7, r8⟩⟩⟩
  · show n = n - ((bg q a).ops - (bg q b).ops)
    rw [hops.1]; omega
  · rw [hops.1]; omega
end Go.Proofs.Ytadflolbgcdncaa

/-! Operations on one of two disks. -/
namespace Go.Proofs.Ytadflolbgcdncaa
open Go.RowKit Go.Maps Plain
set_option linter.unusedVariables false
set_option linter.unusedSimpArgs false

theorem picksLater {w w' : World} {v : Value} {ps : List Int} (h : PicksAt w v ps) (ho : PicksOff w.heap.size v) (hb : Below w.heap.size w w') : PicksAt w' v ps ∧ PicksOff w'.heap.size v :=
  ⟨h.cells ho (fun b hb' => hb.block b hb'), fun b off n c e => Nat.lt_of_lt_of_le (ho b off n c e) hb.size⟩

theorem Duo.changeA {Q : Nat → Prop} {a b n : Nat} {ka kb : Dk} {w : World} (h : Duo Q a b ka kb w) (kd : Int) (nm to : ByteArray) (at' m : Int) (vb vp : Value) (l : List Nat) (hk1 : 1 ≤ kd) (hk7 : kd ≤ 7) (hs : nm.size ≤ maxLen) (ht : to.size ≤ maxLen) (hm : I64 m) (hw : ∀ w', Keep Q w w' → BytesAt w' vb l) (hl : l.length ≤ 140737488351232) (hk : ka.Dok n) (hu : ka.Uok) (hn : n ≤ 4398046511103) :
    Calls Try.prog 23 #[.pointer (some ⟨a, 0, none⟩), .agg #[.int .i64 kd, .string nm, .string to, .int .i64 at', .int .i64 m, vb, vp]] w fun e w' => ∃ G, ¬ ka.live G ∧ e = .returned (.tuple #[.int .i64 (chK ka kd nm to m l G).1, .bool true]) ∧ Duo Q a b ((chK ka kd nm to m l G).2) kb w' ∧ Keep Q w w' := by
  obtain ⟨P, hP, hQ, back⟩ := h.left
  refine (changeAllP kd nm to at' m vb vp l hk1 hk7 hP hs ht hm (fun w' hk => hw w' (hk.sub hQ)) hl hk hu hn).mono ?_
  rintro e w' ⟨G, hG, rfl, h2⟩
  obtain ⟨b1, b2⟩ := back _ _ h2
  exact ⟨G, fun hl => by have := hP.liveLt hl; omega, rfl, b1, b2⟩
theorem Duo.imageA {Q : Nat → Prop} {a b n : Nat} {ka kb : Dk} {w : World} (h : Duo Q a b ka kb w) (hk : ka.Dok n) : Calls Try.prog 25 #[.pointer (some ⟨a, 0, none⟩)] w fun e w' => ∃ x l c, e = .returned (.slice x l c) ∧ ImgAt w' (.slice x l c) (imK ka) w.heap.size ∧ Below w.heap.size w w' := by
  obtain ⟨P, hP, hQ, back⟩ := h.left
  refine (imageP hP hk).mono ?_
  rintro e w' ⟨x, l, c, rfl, hi, _, hb⟩
  exact ⟨x, l, c, rfl, hi, hb⟩
theorem Duo.crashA {Q : Nat → Prop} {a b n : Nat} {ka kb : Dk} {w : World} {x : Option Addr} {m c : Nat} {ps : List Int} (h : Duo Q a b ka kb w) (hk : ka.Dok n) (hp : ka.Past) (hn : n ≤ 2000000000000) (hps : PicksAt w (.slice x m c) ps ∧ PicksOff w.heap.size (.slice x m c)) : Calls Try.prog 15 #[.pointer (some ⟨a, 0, none⟩), .slice x m c] w fun e w' => ∃ x l c, e = .returned (.slice x l c) ∧ ImgAt w' (.slice x l c) (crK ka ps) w.heap.size ∧ Below w.heap.size w w' := by
  obtain ⟨P, hP, hQ, back⟩ := h.left
  exact crashP hP hk hp hn hps.1 hps.2
theorem Duo.opsA {Q : Nat → Prop} {a b : Nat} {ka kb : Dk} {w : World} (h : Duo Q a b ka kb w) : Calls Try.prog 32 #[.pointer (some ⟨a, 0, none⟩)] w fun e w' => e = .returned (.int .i64 ka.ops) ∧ w' = w := by
  obtain ⟨P, hP, hQ, back⟩ := h.left
  exact opsP hP
theorem Duo.deadA {Q : Nat → Prop} {a b : Nat} {ka kb : Dk} {w : World} (h : Duo Q a b ka kb w) : Calls Try.prog 33 #[.pointer (some ⟨a, 0, none⟩)] w fun e w' => e = .returned (.bool ka.dead) ∧ w' = w := by
  obtain ⟨P, hP, hQ, back⟩ := h.left
  exact deadP hP
theorem Duo.fuseA {Q : Nat → Prop} {a b : Nat} {ka kb : Dk} {w : World} (h : Duo Q a b ka kb w) (n : Int) (hn : I64 n) : Calls Try.prog 31 #[.pointer (some ⟨a, 0, none⟩), .int .i64 n] w fun e w' => e = .returned (.tuple #[]) ∧ Duo Q a b (fuseK ka n) kb w' ∧ Keep Q w w' := by
  obtain ⟨P, hP, hQ, back⟩ := h.left
  refine (fuseP hP n hn).mono ?_
  rintro e w' ⟨rfl, h2⟩
  exact ⟨rfl, back _ _ h2⟩
theorem Duo.listA {Q : Nat → Prop} {a b : Nat} {ka kb : Dk} {w : World} (h : Duo Q a b ka kb w) (hd : ka.dead = true) : Calls Try.prog 28 #[.pointer (some ⟨a, 0, none⟩)] w fun e w' => e = .returned (.tuple #[.slice none 0 0, .int .i64 34]) ∧ w' = w := by
  obtain ⟨P, hP, hQ, back⟩ := h.left
  exact listDeadP hP hd
theorem Duo.readA {Q : Nat → Prop} {a b : Nat} {ka kb : Dk} {w : World} (h : Duo Q a b ka kb w) (hd : ka.dead = true) (s : ByteArray) (hs : s.size ≤ maxLen) (x y : Int) : Calls Try.prog 17 #[.pointer (some ⟨a, 0, none⟩), .string s, .int .i64 x, .int .i64 y] w fun e w' => e = .returned (.tuple #[.slice none 0 0, .int .i64 34]) ∧ Below w.heap.size w w' := by
  obtain ⟨P, hP, hQ, back⟩ := h.left
  exact readDeadP hP hd s hs x y
theorem Duo.sizeA {Q : Nat → Prop} {a b n : Nat} {ka kb : Dk} {w : World} (h : Duo Q a b ka kb w) (hk : ka.Dok n) (s : ByteArray) (hs : s.size ≤ maxLen) : Calls Try.prog 22 #[.pointer (some ⟨a, 0, none⟩), .string s] w fun e w' => e = .returned (.tuple #[.int .i64 ((szK ka s).1 : Int), .int .i64 (szK ka s).2]) ∧ Duo Q a b ka kb w' ∧ Keep Q w w' := by
  obtain ⟨P, hP, hQ, back⟩ := h.left
  refine (sizeP hP hs hk).mono ?_
  rintro e w' ⟨rfl, h2⟩
  exact ⟨rfl, back _ _ h2⟩

theorem Duo.changeB {Q : Nat → Prop} {a b n : Nat} {ka kb : Dk} {w : World} (h : Duo Q a b ka kb w) (kd : Int) (nm to : ByteArray) (at' m : Int) (vb vp : Value) (l : List Nat) (hk1 : 1 ≤ kd) (hk7 : kd ≤ 7) (hs : nm.size ≤ maxLen) (ht : to.size ≤ maxLen) (hm : I64 m) (hw : ∀ w', Keep Q w w' → BytesAt w' vb l) (hl : l.length ≤ 140737488351232) (hk : kb.Dok n) (hu : kb.Uok) (hn : n ≤ 4398046511103) :
    Calls Try.prog 23 #[.pointer (some ⟨b, 0, none⟩), .agg #[.int .i64 kd, .string nm, .string to, .int .i64 at', .int .i64 m, vb, vp]] w fun e w' => ∃ G, ¬ kb.live G ∧ e = .returned (.tuple #[.int .i64 (chK kb kd nm to m l G).1, .bool true]) ∧ Duo Q a b ka ((chK kb kd nm to m l G).2) w' ∧ Keep Q w w' := by
  obtain ⟨P, hP, hQ, back⟩ := h.right
  refine (changeAllP kd nm to at' m vb vp l hk1 hk7 hP hs ht hm (fun w' hk => hw w' (hk.sub hQ)) hl hk hu hn).mono ?_
  rintro e w' ⟨G, hG, rfl, h2⟩
  obtain ⟨b1, b2⟩ := back _ _ h2
  exact ⟨G, fun hl => by have := hP.liveLt hl; omega, rfl, b1, b2⟩
theorem Duo.imageB {Q : Nat → Prop} {a b n : Nat} {ka kb : Dk} {w : World} (h : Duo Q a b ka kb w) (hk : kb.Dok n) : Calls Try.prog 25 #[.pointer (some ⟨b, 0, none⟩)] w fun e w' => ∃ x l c, e = .returned (.slice x l c) ∧ ImgAt w' (.slice x l c) (imK kb) w.heap.size ∧ Below w.heap.size w w' := by
  obtain ⟨P, hP, hQ, back⟩ := h.right
  refine (imageP hP hk).mono ?_
  rintro e w' ⟨x, l, c, rfl, hi, _, hb⟩
  exact ⟨x, l, c, rfl, hi, hb⟩
theorem Duo.crashB {Q : Nat → Prop} {a b n : Nat} {ka kb : Dk} {w : World} {x : Option Addr} {m c : Nat} {ps : List Int} (h : Duo Q a b ka kb w) (hk : kb.Dok n) (hp : kb.Past) (hn : n ≤ 2000000000000) (hps : PicksAt w (.slice x m c) ps ∧ PicksOff w.heap.size (.slice x m c)) : Calls Try.prog 15 #[.pointer (some ⟨b, 0, none⟩), .slice x m c] w fun e w' => ∃ x l c, e = .returned (.slice x l c) ∧ ImgAt w' (.slice x l c) (crK kb ps) w.heap.size ∧ Below w.heap.size w w' := by
  obtain ⟨P, hP, hQ, back⟩ := h.right
  exact crashP hP hk hp hn hps.1 hps.2
theorem Duo.opsB {Q : Nat → Prop} {a b : Nat} {ka kb : Dk} {w : World} (h : Duo Q a b ka kb w) : Calls Try.prog 32 #[.pointer (some ⟨b, 0, none⟩)] w fun e w' => e = .returned (.int .i64 kb.ops) ∧ w' = w := by
  obtain ⟨P, hP, hQ, back⟩ := h.right
  exact opsP hP
theorem Duo.deadB {Q : Nat → Prop} {a b : Nat} {ka kb : Dk} {w : World} (h : Duo Q a b ka kb w) : Calls Try.prog 33 #[.pointer (some ⟨b, 0, none⟩)] w fun e w' => e = .returned (.bool kb.dead) ∧ w' = w := by
  obtain ⟨P, hP, hQ, back⟩ := h.right
  exact deadP hP
theorem Duo.fuseB {Q : Nat → Prop} {a b : Nat} {ka kb : Dk} {w : World} (h : Duo Q a b ka kb w) (n : Int) (hn : I64 n) : Calls Try.prog 31 #[.pointer (some ⟨b, 0, none⟩), .int .i64 n] w fun e w' => e = .returned (.tuple #[]) ∧ Duo Q a b ka (fuseK kb n) w' ∧ Keep Q w w' := by
  obtain ⟨P, hP, hQ, back⟩ := h.right
  refine (fuseP hP n hn).mono ?_
  rintro e w' ⟨rfl, h2⟩
  exact ⟨rfl, back _ _ h2⟩
theorem Duo.listB {Q : Nat → Prop} {a b : Nat} {ka kb : Dk} {w : World} (h : Duo Q a b ka kb w) (hd : kb.dead = true) : Calls Try.prog 28 #[.pointer (some ⟨b, 0, none⟩)] w fun e w' => e = .returned (.tuple #[.slice none 0 0, .int .i64 34]) ∧ w' = w := by
  obtain ⟨P, hP, hQ, back⟩ := h.right
  exact listDeadP hP hd
theorem Duo.readB {Q : Nat → Prop} {a b : Nat} {ka kb : Dk} {w : World} (h : Duo Q a b ka kb w) (hd : kb.dead = true) (s : ByteArray) (hs : s.size ≤ maxLen) (x y : Int) : Calls Try.prog 17 #[.pointer (some ⟨b, 0, none⟩), .string s, .int .i64 x, .int .i64 y] w fun e w' => e = .returned (.tuple #[.slice none 0 0, .int .i64 34]) ∧ Below w.heap.size w w' := by
  obtain ⟨P, hP, hQ, back⟩ := h.right
  exact readDeadP hP hd s hs x y
theorem Duo.sizeB {Q : Nat → Prop} {a b n : Nat} {ka kb : Dk} {w : World} (h : Duo Q a b ka kb w) (hk : kb.Dok n) (s : ByteArray) (hs : s.size ≤ maxLen) : Calls Try.prog 22 #[.pointer (some ⟨b, 0, none⟩), .string s] w fun e w' => e = .returned (.tuple #[.int .i64 ((szK kb s).1 : Int), .int .i64 (szK kb s).2]) ∧ Duo Q a b ka kb w' ∧ Keep Q w w' := by
  obtain ⟨P, hP, hQ, back⟩ := h.right
  refine (sizeP hP hs hk).mono ?_
  rintro e w' ⟨rfl, h2⟩
  exact ⟨rfl, back _ _ h2⟩
theorem szK_dead {k : Dk} {s : ByteArray} (h : k.dead = true) : szK k s = (0, 34) := by
  have h2 : (fnd k.dead k.L s).2 = 34 := by unfold fnd; rw [h]; rfl
  unfold szK
  rw [h2]; rfl
theorem fuseK_ops (k : Dk) (n : Int) : (fuseK k n).ops = k.ops := by
  unfold fuseK
  split <;> rfl
theorem fuseK_dead (k : Dk) (n : Int) : (fuseK k n).dead = k.dead := by
  unfold fuseK
  split <;> rfl
end Go.Proofs.Ytadflolbgcdncaa
