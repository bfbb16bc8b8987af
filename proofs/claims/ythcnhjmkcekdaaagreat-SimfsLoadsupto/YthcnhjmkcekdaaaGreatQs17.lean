import Derived.Test.YthcnhjmkcekdaaaGreatQs16
namespace Go.Proofs.YthcnhjmkcekdaaaGreat
open Go.RowKit Go.Maps Plain
set_option linter.unusedVariables false
set_option linter.unusedSimpArgs false
/-- The blocks P of world W are there as they were. -/
structure Keep (P : Nat → Prop) (W w : World) : Prop where
  os : w.os = W.os
  tape : w.tape = W.tape
  output : w.output = W.output
  size : W.heap.size ≤ w.heap.size
  lt : ∀ x, P x → x < W.heap.size
  block : ∀ x, P x → w.heap[x]? = W.heap[x]?
theorem Keep.refl {P : Nat → Prop} {W : World} (h : ∀ x, P x → x < W.heap.size) : Keep P W W := ⟨rfl, rfl, rfl, Nat.le_refl _, h, fun _ _ => rfl⟩
theorem Keep.later {P : Nat → Prop} {W w w' : World} (h : Keep P W w) (hb : Below w.heap.size w w') : Keep P W w' :=
  ⟨hb.os.trans h.os, hb.tape.trans h.tape, hb.output.trans h.output, Nat.le_trans h.size hb.size, h.lt, fun x hx => (hb.block x (Nat.lt_of_lt_of_le (h.lt x hx) h.size)).trans (h.block x hx)⟩
theorem Keep.chg {P S : Nat → Prop} {W w w' : World} (h : Keep P W w) (hc : Chg S w w') (hS : ∀ x, S x → ¬ P x) : Keep P W w' :=
  ⟨hc.os.trans h.os, hc.tape.trans h.tape, hc.output.trans h.output, Nat.le_trans h.size hc.size, h.lt, fun x hx => (hc.block x (Nat.lt_of_lt_of_le (h.lt x hx) h.size) (fun hs => hS x hs hx)).trans (h.block x hx)⟩
theorem Keep.below {P : Nat → Prop} {W w : World} {B : Nat} (h : Keep P W w) (hP : ∀ x, x < B → P x) : Below B W w := ⟨h.os, h.tape, h.output, h.size, fun x hx => h.block x (hP x hx)⟩
theorem Keep.cell {P : Nat → Prop} {W w : World} {b o : Nat} {v : Value} (h : Keep P W w) (hb : P b) (hc : W.cell? ⟨b, o, none⟩ = some v) : w.cell? ⟨b, o, none⟩ = some v := by
  rw [World.cell?_of_block (w := W) (a := ⟨b, o, none⟩) (h.block b hb)]; exact hc
def DskP (P : Nat → Prop) (W : World) (d : Nat) (k : Dk) (w1 : World) : Prop := Keep P W w1 ∧ ∃ S, DiskAt w1 d k S ∧ ∀ x, S x → ¬ P x
theorem DskP.later {P : Nat → Prop} {W w1 w2 : World} {d : Nat} {k : Dk} (h : DskP P W d k w1) (hb : Below w1.heap.size w1 w2) : DskP P W d k w2 := by
  obtain ⟨h1, S, h2, h3⟩ := h
  exact ⟨h1.later hb, S, h2.later hb, h3⟩
theorem DskP.liveLt {P : Nat → Prop} {W w1 : World} {d G : Nat} {k : Dk} (h : DskP P W d k w1) (hG : k.live G) : G < w1.heap.size := by
  obtain ⟨_, S, ⟨ms, md, vc, rc, Sf, hm, _⟩, _⟩ := h
  exact (hm.files G hG).self
theorem DskP.ext {P S : Nat → Prop} {W w1 w2 : World} (h1 : Keep P W w1) (h3 : ∀ x, S x → ¬ P x) : ∀ x, Ext S w1 w2 x → ¬ P x := fun x hx hp => by
  rcases hx with hx | hx
  · exact h3 x hx hp
  · have := h1.lt x hp; have := h1.size; omega
theorem DskP.op {P : Nat → Prop} {W w1 w2 : World} {d : Nat} {S : Nat → Prop} {r : Int × Dk} {e : Ending} (h1 : Keep P W w1) (h3 : ∀ x, S x → ¬ P x) (h : OpPost d r S w1 e w2) : e = .returned (.int .i64 r.1) ∧ DskP P W d r.2 w2 := by
  obtain ⟨rfl, h4, h5⟩ := h
  exact ⟨rfl, h1.chg h5 h3, _, h4, DskP.ext h1 h3⟩
theorem DskP.ofSt {P : Nat → Prop} {W w1 w2 : World} {d : Nat} {k : Dk} {S : Nat → Prop} (h1 : Keep P W w1) (h3 : ∀ x, S x → ¬ P x) (h : St S w1 d k w2) : DskP P W d k w2 := ⟨h1.chg h.2 h3, _, h.1, DskP.ext h1 h3⟩
theorem DskP.back {W W' w1 : World} {d : Nat} {k : Dk} {B : Nat} (h : DskP (fun x => x < W.heap.size ∨ x = B) W' d k w1) (hb : Below W.heap.size W W') : Dsk W d k w1 := by
  obtain ⟨h1, S, h2, h3⟩ := h
  refine ⟨hb.trans (h1.below (fun x hx => .inl hx)), S, h2, fun x hx => ?_⟩
  have := h3 x hx
  by_cases hlt : x < W.heap.size
  · exact absurd (.inl hlt) this
  · omega
abbrev PPost (P : Nat → Prop) (W : World) (d : Nat) (r : Int × Dk) : Ending → World → Prop := fun e w2 => e = .returned (.int .i64 r.1) ∧ DskP P W d r.2 w2
theorem createP {P : Nat → Prop} {W w1 : World} {d n : Nat} {k : Dk} {s : ByteArray} (h : DskP P W d k w1) (hs : s.size ≤ maxLen) (hk : k.Dok n) (hn : n ≤ 4398046511103) : Calls Tryz.prog 40 #[.pointer (some ⟨d, 0, none⟩), .string s] w1 fun e w2 => ∃ G, w1.heap.size ≤ G ∧ PPost P W d (createK k s G) e w2 := by
  obtain ⟨h1, S, h2, h3⟩ := h
  refine (createOf d k n S s hs w1 h2 hk hn).mono ?_
  rintro e w2 ⟨G, hG, hp⟩
  exact ⟨G, hG, DskP.op h1 h3 hp⟩
theorem syncP {P : Nat → Prop} {W w1 : World} {d n : Nat} {k : Dk} {s : ByteArray} (h : DskP P W d k w1) (hs : s.size ≤ maxLen) (hk : k.Dok n) (hn : n ≤ 4398046511103) : Calls Tryz.prog 45 #[.pointer (some ⟨d, 0, none⟩), .string s] w1 (PPost P W d (syncK k s)) := by
  obtain ⟨h1, S, h2, h3⟩ := h
  refine (syncOf d k n S s hs w1 h2 hk.ok hn).mono ?_
  rintro e w2 hp
  exact DskP.op h1 h3 hp
theorem syncDirP {P : Nat → Prop} {W w1 : World} {d n : Nat} {k : Dk} (h : DskP P W d k w1) (hk : k.Dok n) (hn : n ≤ 4398046511103) : Calls Tryz.prog 46 #[.pointer (some ⟨d, 0, none⟩)] w1 (PPost P W d (syncDirK k)) := by
  obtain ⟨h1, S, h2, h3⟩ := h
  refine (syncDirOf d k n S w1 h2 hk hn).mono ?_
  rintro e w2 hp
  exact DskP.op h1 h3 hp
theorem renameP {P : Nat → Prop} {W w1 : World} {d n : Nat} {k : Dk} {s t : ByteArray} (h : DskP P W d k w1) (hs : s.size ≤ maxLen) (ht : t.size ≤ maxLen) (hk : k.Dok n) (hu : k.Uok) (hn : n ≤ 4398046511103) : Calls Tryz.prog 47 #[.pointer (some ⟨d, 0, none⟩), .string s, .string t] w1 (PPost P W d (renameK k s t)) := by
  obtain ⟨h1, S, h2, h3⟩ := h
  refine (renameOf d k n S s t hs ht w1 h2 hk hu hn).mono ?_
  rintro e w2 hp
  exact DskP.op h1 h3 hp
theorem truncP {P : Nat → Prop} {W w1 : World} {d n : Nat} {k : Dk} {s : ByteArray} {m : Int} (h : DskP P W d k w1) (hs : s.size ≤ maxLen) (hm : I64 m) (hk : k.Dok n) (hu : k.Uok) (hn : n ≤ 4398046511103) : Calls Tryz.prog 44 #[.pointer (some ⟨d, 0, none⟩), .string s, .int .i64 m] w1 (PPost P W d (truncK k s m)) := by
  obtain ⟨h1, S, h2, h3⟩ := h
  refine (truncOf d k n S s hs m hm.1 hm.2 w1 h2 hk.ok hu hn).mono ?_
  rintro e w2 hp
  exact DskP.op h1 h3 hp
theorem removeP {P : Nat → Prop} {W w1 : World} {d n : Nat} {k : Dk} {s : ByteArray} (h : DskP P W d k w1) (hs : s.size ≤ maxLen) (hk : k.Dok n) (hu : k.Uok) (hn : n ≤ 4398046511103) : Calls Tryz.prog 48 #[.pointer (some ⟨d, 0, none⟩), .string s] w1 (PPost P W d (removeK k s)) := by
  obtain ⟨h1, S, h2, h3⟩ := h
  refine (removeOf d k n S s hs w1 h2 hk hu hn).mono ?_
  rintro e w2 hp
  exact DskP.op h1 h3 hp
theorem usedP {P : Nat → Prop} {W w1 : World} {d : Nat} {k : Dk} (h : DskP P W d k w1) : Calls Tryz.prog 23 #[.pointer (some ⟨d, 0, none⟩)] w1 fun e w2 => e = .returned (.int .i64 k.used) ∧ w2 = w1 := by
  obtain ⟨h1, S, h2, h3⟩ := h
  exact usedOf (St.start h2)
theorem quotaP {P : Nat → Prop} {W w1 : World} {d : Nat} {k : Dk} (h : DskP P W d k w1) : Calls Tryz.prog 25 #[.pointer (some ⟨d, 0, none⟩)] w1 fun e w2 => e = .returned (.int .i64 k.quota) ∧ w2 = w1 := by
  obtain ⟨h1, S, h2, h3⟩ := h
  exact quotaOf (St.start h2)
theorem setqP {P : Nat → Prop} {W w1 : World} {d : Nat} {k : Dk} (h : DskP P W d k w1) (q : Int) (hq : I64 q) : Calls Tryz.prog 16 #[.pointer (some ⟨d, 0, none⟩), .int .i64 q] w1 fun e w2 => (qB q = true ∧ e = .returned (.int .i64 0) ∧ DskP P W d (k.quotas q) w2) ∨ (qB q = false ∧ e = .returned (.int .i64 3) ∧ DskP P W d k w2) := by
  obtain ⟨h1, S, h2, h3⟩ := h
  refine (setqOf (St.start h2) q hq.1 hq.2).mono ?_
  rintro e w2 (⟨a1, rfl, a3⟩ | ⟨a1, rfl, a3⟩)
  · exact .inl ⟨a1, rfl, DskP.ofSt h1 h3 a3⟩
  · exact .inr ⟨a1, rfl, DskP.ofSt h1 h3 a3⟩
theorem imageP {P : Nat → Prop} {W w1 : World} {d n : Nat} {k : Dk} (h : DskP P W d k w1) (hk : k.Dok n) : Calls Tryz.prog 30 #[.pointer (some ⟨d, 0, none⟩)] w1 fun e w2 => ∃ a l c, e = .returned (.slice a l c) ∧ ImgAt w2 (.slice a l c) (imK k) w1.heap.size ∧ DskP P W d k w2 ∧ Below w1.heap.size w1 w2 := by
  have h0 := h
  obtain ⟨h1, S, h2, h3⟩ := h
  refine (imageAll w1 d k n S h2 hk).mono ?_
  rintro e w2 ⟨a, l, c, rfl, hi, hb⟩
  exact ⟨a, l, c, rfl, hi, h0.later hb, hb⟩
end Go.Proofs.YthcnhjmkcekdaaaGreat

namespace Go.Proofs.YthcnhjmkcekdaaaGreat
open Go.RowKit Go.Maps Plain
set_option linter.unusedVariables false
set_option linter.unusedSimpArgs false
abbrev Rel := Nat → Nat → Prop
/-- Directories with the same names, the files of each pair alike. -/
def DirR (R : Rel) : Dir → Dir → Prop
  | [], [] => True
  | p :: L, q :: M => (p.1 = q.1 ∧ R p.2 q.2) ∧ DirR R L M
  | _, _ => False
theorem DirR.mono {R R' : Rel} (hR : ∀ a b, R a b → R' a b) : ∀ {L M : Dir}, DirR R L M → DirR R' L M
  | [], [], h => trivial
  | p :: L, q :: M, h => ⟨⟨h.1.1, hR _ _ h.1.2⟩, DirR.mono hR h.2⟩
  | [], q :: M, h => h.elim
  | p :: L, [], h => h.elim
theorem DirR.keys {R : Rel} : ∀ {L M : Dir}, DirR R L M → L.map (·.1) = M.map (·.1)
  | [], [], h => rfl
  | p :: L, q :: M, h => by rw [List.map_cons, List.map_cons, h.1.1, DirR.keys h.2]
  | [], q :: M, h => h.elim
  | p :: L, [], h => h.elim
theorem DirR.len {R : Rel} {L M : Dir} (h : DirR R L M) : L.length = M.length := by
  have := congrArg List.length h.keys
  simpa using this
/-- What the two look-ups find. -/
def LkR (R : Rel) (x y : Option Nat) : Prop := (x = none ∧ y = none) ∨ ∃ a b, x = some a ∧ y = some b ∧ R a b
theorem DirR.look {R : Rel} (k : Nm) : ∀ {L M : Dir}, DirR R L M → LkR R (look L k) (look M k)
  | [], [], h => .inl ⟨rfl, rfl⟩
  | p :: L, q :: M, h => by
    unfold Go.Proofs.YthcnhjmkcekdaaaGreat.look
    rw [List.find?_cons, List.find?_cons, ← h.1.1]
    by_cases e : p.1 = k
    · rw [show (p.1 == k) = true by simpa using e]
      exact .inr ⟨p.2, q.2, rfl, rfl, h.1.2⟩
    · rw [show (p.1 == k) = false by simpa using e]
      exact DirR.look k h.2
  | [], q :: M, h => h.elim
  | p :: L, [], h => h.elim
theorem DirR.ins {R : Rel} {k : Nm} {a b : Nat} (hab : R a b) : ∀ {L M : Dir}, DirR R L M → DirR R (ins (k, a) L) (ins (k, b) M)
  | [], [], h => ⟨⟨rfl, hab⟩, trivial⟩
  | p :: L, q :: M, h => by
    unfold Go.Proofs.YthcnhjmkcekdaaaGreat.ins
    rw [← h.1.1]
    by_cases e : (Lit.string (k, a).1).before (.string p.1) = true
    · rw [if_pos e, if_pos e]
      exact ⟨⟨rfl, hab⟩, h⟩
    · rw [if_neg e, if_neg e]
      exact ⟨h.1, DirR.ins hab h.2⟩
  | [], q :: M, h => h.elim
  | p :: L, [], h => h.elim
theorem DirR.del {R : Rel} (k : Nm) : ∀ {L M : Dir}, DirR R L M → DirR R (del L k) (del M k)
  | [], [], h => trivial
  | p :: L, q :: M, h => by
    rw [del_cons, del_cons, ← h.1.1]
    by_cases e : p.1 = k
    · rw [if_pos e, if_pos e]; exact DirR.del k h.2
    · rw [if_neg e, if_neg e]; exact ⟨h.1, DirR.del k h.2⟩
  | [], q :: M, h => h.elim
  | p :: L, [], h => h.elim
theorem DirR.put {R : Rel} {k : Nm} {a b : Nat} {L M : Dir} (h : DirR R L M) (hab : R a b) : DirR R (put L k a) (put M k b) := DirR.ins hab (h.del k)
/-- Changes of the directory that are alike. -/
def DCR (R : Rel) (c1 c2 : DC) : Prop := (∃ k a b, c1 = DC.mk k a ∧ c2 = DC.mk k b ∧ R a b) ∨ (∃ a b, c1 = DC.mv a b ∧ c2 = DC.mv a b) ∨ ∃ k, c1 = DC.rm k ∧ c2 = DC.rm k
theorem DCR.mono {R R' : Rel} (hR : ∀ a b, R a b → R' a b) {c1 c2 : DC} (h : DCR R c1 c2) : DCR R' c1 c2 := by
  rcases h with ⟨k, a, b, h1, h2, h3⟩ | h | h
  · exact .inl ⟨k, a, b, h1, h2, hR _ _ h3⟩
  · exact .inr (.inl h)
  · exact .inr (.inr h)
theorem DCR.on {R : Rel} {c1 c2 : DC} (h : DCR R c1 c2) {L M : Dir} (hd : DirR R L M) : DirR R (DC.on L c1) (DC.on M c2) := by
  rcases h with ⟨k, a, b, rfl, rfl, h3⟩ | ⟨a, b, rfl, rfl⟩ | ⟨k, rfl, rfl⟩
  · rw [DC.on_mk, DC.on_mk]; exact hd.put h3
  · rw [DC.on_mv, DC.on_mv]
    rcases hd.look a with ⟨e1, e2⟩ | ⟨x, y, e1, e2, hxy⟩
    · rw [e1, e2]; exact hd
    · rw [e1, e2]; exact (hd.put hxy).del a
  · rw [DC.on_rm, DC.on_rm]; exact hd.del k
def CsR (R : Rel) : List DC → List DC → Prop
  | [], [] => True
  | c :: L, d :: M => DCR R c d ∧ CsR R L M
  | _, _ => False
theorem CsR.mono {R R' : Rel} (hR : ∀ a b, R a b → R' a b) : ∀ {L M : List DC}, CsR R L M → CsR R' L M
  | [], [], h => trivial
  | p :: L, q :: M, h => ⟨h.1.mono hR, CsR.mono hR h.2⟩
  | [], q :: M, h => h.elim
  | p :: L, [], h => h.elim
theorem CsR.len {R : Rel} : ∀ {L M : List DC}, CsR R L M → L.length = M.length
  | [], [], h => rfl
  | p :: L, q :: M, h => by rw [List.length_cons, List.length_cons, CsR.len h.2]
  | [], q :: M, h => h.elim
  | p :: L, [], h => h.elim
theorem CsR.snoc {R : Rel} {c d : DC} (hcd : DCR R c d) : ∀ {L M : List DC}, CsR R L M → CsR R (L ++ [c]) (M ++ [d])
  | [], [], h => ⟨hcd, trivial⟩
  | p :: L, q :: M, h => ⟨h.1, CsR.snoc hcd h.2⟩
  | [], q :: M, h => h.elim
  | p :: L, [], h => h.elim
theorem CsR.take {R : Rel} : ∀ (n : Nat) {L M : List DC}, CsR R L M → CsR R (L.take n) (M.take n)
  | 0, L, M, h => by simp only [List.take_zero]; trivial
  | n + 1, [], [], h => trivial
  | n + 1, p :: L, q :: M, h => ⟨h.1, CsR.take n h.2⟩
  | n + 1, [], q :: M, h => h.elim
  | n + 1, p :: L, [], h => h.elim
theorem CsR.dst {R : Rel} : ∀ {cs ds : List DC} {L M : Dir}, CsR R cs ds → DirR R L M → DirR R (dst L cs) (dst M ds)
  | [], [], L, M, h, hd => hd
  | c :: cs, d :: ds, L, M, h, hd => by
    show DirR R (Go.Proofs.YthcnhjmkcekdaaaGreat.dst (DC.on L c) cs) (Go.Proofs.YthcnhjmkcekdaaaGreat.dst (DC.on M d) ds)
    exact CsR.dst (cs := cs) (ds := ds) h.2 (h.1.on hd)
  | [], d :: ds, L, M, h, hd => h.elim
  | c :: cs, [], L, M, h, hd => h.elim
/-- The two disks have the same files under the same names, seen and durable, and the same changes between. -/
structure Sib (R : Rel) (k1 k2 : Dk) : Prop where
  one : ∀ a b a' b', R a b → R a' b' → (a = a' ↔ b = b')
  live : ∀ a b, R a b → k1.live a ∧ k2.live b
  file : ∀ a b, R a b → k1.file a = k2.file b
  L : DirR R k1.L k2.L
  Ld : DirR R k1.Ld k2.Ld
  chg : CsR R k1.chg k2.chg
  used : k1.used = k2.used
  quota : k1.quota = k2.quota
theorem Sib.size {R : Rel} {k1 k2 : Dk} (h : Sib R k1 k2) (s : ByteArray) : sizeK k1 s = sizeK k2 s := by
  unfold sizeK
  rcases h.L.look s.data.toList with ⟨e1, e2⟩ | ⟨a, b, e1, e2, hab⟩
  · rw [e1, e2]; rfl
  · rw [e1, e2]
    show (k1.file a).seen.length = (k2.file b).seen.length
    rw [h.file a b hab]
theorem imgL_R {σ : Type} {R : Rel} {L M : Dir} (h : DirR R L M) (B1 B2 : σ → Nat → List Nat) (n1 n2 : σ → Nat → σ) (hB : ∀ s a b, R a b → B1 s a = B2 s b ∧ n1 s a = n2 s b) : ∀ (ks : List Nm) (s : σ), (∀ k ∈ ks, k ∈ L.map (·.1)) → imgL L B1 n1 s ks = imgL M B2 n2 s ks
  | [], s, _ => rfl
  | k :: ks, s, hk => by
    obtain ⟨g, hg⟩ := look_some (hk k (by simp))
    rcases h.look k with ⟨e1, _⟩ | ⟨a, b, e1, e2, hab⟩
    · rw [hg] at e1; simp at e1
    · have f1 : fileOf L k = a := by unfold fileOf; rw [e1]; rfl
      have f2 : fileOf M k = b := by unfold fileOf; rw [e2]; rfl
      simp only [imgL, f1, f2]
      rw [(hB s a b hab).1, (hB s a b hab).2, imgL_R h B1 B2 n1 n2 hB ks _ (fun x hx => hk x (by simp [hx]))]
theorem nms_R {R : Rel} {L M : Dir} (h : DirR R L M) : nms L = nms M := by unfold nms; rw [h.keys]
theorem Sib.image {R : Rel} {k1 k2 : Dk} (h : Sib R k1 k2) : imK k1 = imK k2 := by
  unfold imK
  rw [← nms_R h.L]
  exact imgL_R h.L _ _ _ _ (fun s a b hab => ⟨by rw [h.file a b hab], rfl⟩) _ _ (fun k hk => nms_mem.mp hk)
theorem Sib.crash {R : Rel} {k1 k2 : Dk} (h : Sib R k1 k2) (ps : List Int) : crK k1 ps = crK k2 ps := by
  unfold crK
  have hL : DirR R (crL k1 ps) (crL k2 ps) := by
    unfold crL
    rw [← h.chg.len]
    exact (h.chg.take _).dst h.Ld
  rw [← nms_R hL]
  exact imgL_R hL _ _ _ _ (fun s a b hab => ⟨by rw [h.file a b hab], by rw [h.file a b hab]⟩) _ _ (fun k hk => nms_mem.mp hk)
/-- A file of both has turned, in the same way. -/
theorem Sib.setFile {R : Rel} {k1 k2 : Dk} (h : Sib R k1 k2) {a b : Nat} (hab : R a b) (f : Fl) (u : Int) : Sib R ((k1.setFile a f).uses u) ((k2.setFile b f).uses u) := by
  refine ⟨h.one, h.live, fun x y hxy => ?_, h.L, h.Ld, h.chg, rfl, h.quota⟩
  show upd k1.file a f x = upd k2.file b f y
  by_cases e : x = a
  · have e2 : y = b := (h.one x y a b hxy hab).mp e
    rw [e, e2, upd_same, upd_same]
  · have e2 : y ≠ b := fun e2 => e ((h.one x y a b hxy hab).mpr e2)
    rw [upd_other _ _ _ _ e, upd_other _ _ _ _ e2]
    exact h.file x y hxy
theorem Sib.did {R : Rel} {k1 k2 : Dk} (h : Sib R k1 k2) {c1 c2 : DC} (hc : DCR R c1 c2) (u : Int) : Sib R ((k1.uses u).did c1) ((k2.uses u).did c2) :=
  ⟨h.one, h.live, h.file, hc.on h.L, h.Ld, CsR.snoc hc h.chg, rfl, h.quota⟩
theorem Sib.settled {R : Rel} {k1 k2 : Dk} (h : Sib R k1 k2) : Sib R k1.settled k2.settled := ⟨h.one, h.live, h.file, h.L, h.L, trivial, h.used, h.quota⟩
theorem Sib.spent {R : Rel} {k1 k2 : Dk} (h : Sib R k1 k2) : Sib R k1.spent k2.spent := ⟨h.one, h.live, h.file, h.L, h.Ld, h.chg, h.used, h.quota⟩
theorem Sib.find {R : Rel} {k1 k2 : Dk} (h : Sib R k1 k2) (hd : k1.dead = k2.dead) (s : ByteArray) : (fnd k1.dead k1.L s).2 = (fnd k2.dead k2.L s).2 := by
  unfold fnd
  rw [hd]
  cases k2.dead with
  | true => rfl
  | false =>
    cases nmL s.data.toList with
    | false => rfl
    | true =>
      rcases h.L.look s.data.toList with ⟨e1, e2⟩ | ⟨a, b, e1, e2, hab⟩
      · rw [e1, e2]
      · rw [e1, e2]; rfl
/-- A new file of both. -/
theorem Sib.addFile {R : Rel} {k1 k2 : Dk} (h : Sib R k1 k2) {a b : Nat} (ha : ¬ k1.live a) (hb : ¬ k2.live b) : Sib (fun x y => R x y ∨ (x = a ∧ y = b)) (k1.addFile a) (k2.addFile b) := by
  have hm : ∀ x y, R x y → (R x y ∨ (x = a ∧ y = b)) := fun _ _ h => .inl h
  refine ⟨fun x y x' y' h1 h2 => ?_, fun x y hxy => ?_, fun x y hxy => ?_, h.L.mono hm, h.Ld.mono hm, h.chg.mono hm, h.used, h.quota⟩
  · rcases h1 with h1 | ⟨rfl, rfl⟩
    · rcases h2 with h2 | ⟨rfl, rfl⟩
      · exact h.one _ _ _ _ h1 h2
      · exact ⟨fun e => absurd (by rw [← e]; exact (h.live _ _ h1).1) ha, fun e => absurd (by rw [← e]; exact (h.live _ _ h1).2) hb⟩
    · rcases h2 with h2 | ⟨rfl, rfl⟩
      · exact ⟨fun e => absurd (by rw [e]; exact (h.live _ _ h2).1) ha, fun e => absurd (by rw [e]; exact (h.live _ _ h2).2) hb⟩
      · exact ⟨fun _ => rfl, fun _ => rfl⟩
  · rcases hxy with hxy | ⟨rfl, rfl⟩
    · exact ⟨.inl (h.live _ _ hxy).1, .inl (h.live _ _ hxy).2⟩
    · exact ⟨.inr rfl, .inr rfl⟩
  · show upd k1.file a ⟨[], [], []⟩ x = upd k2.file b ⟨[], [], []⟩ y
    rcases hxy with hxy | ⟨rfl, rfl⟩
    · rw [upd_other _ _ _ _ (fun e => ha (by rw [← e]; exact (h.live _ _ hxy).1)), upd_other _ _ _ _ (fun e => hb (by rw [← e]; exact (h.live _ _ hxy).2))]
      exact h.file _ _ hxy
    · rw [upd_same, upd_same]
end Go.Proofs.YthcnhjmkcekdaaaGreat

namespace Go.Proofs.YthcnhjmkcekdaaaGreat
open Go.RowKit Go.Maps Plain
set_option linter.unusedVariables false
set_option linter.unusedSimpArgs false
/-- Both answer the same, and stay alike. -/
def AlikeR (R : Rel) (x y : Int × Dk) : Prop := x.1 = y.1 ∧ ∃ R', Sib R' x.2 y.2
theorem Sib.same {R : Rel} {k1 k2 : Dk} (h : Sib R k1 k2) (e : Int) : AlikeR R (e, k1) (e, k2) := ⟨rfl, R, h⟩
theorem create_R {R : Rel} {k1 k2 : Dk} {a b : Nat} {s : ByteArray} (h : Sib R k1 k2) (hd : k1.dead = k2.dead) (hc : k1.can = true) (hc2 : k2.can = true) (ha : ¬ k1.live a) (hb : ¬ k2.live b) : AlikeR R (createK k1 s a) (createK k2 s b) := by
  unfold createK
  rw [hd, h.L.len, hc, hc2]
  have hl : (look k1.L s.data.toList).isSome = (look k2.L s.data.toList).isSome := by
    rcases h.L.look s.data.toList with ⟨e1, e2⟩ | ⟨x, y, e1, e2, _⟩ <;> rw [e1, e2]
    rfl
  rw [hl]
  split
  · exact h.same _
  · split
    · exact h.same _
    · split
      · exact h.same _
      · rw [if_pos rfl, if_pos rfl]
        have h1 := (h.spent.addFile (a := a) (b := b) ha hb).did (c1 := DC.mk s.data.toList a) (c2 := DC.mk s.data.toList b) (.inl ⟨_, _, _, rfl, rfl, .inr ⟨rfl, rfl⟩⟩) k1.used
        refine ⟨rfl, (fun x y => R x y ∨ (x = a ∧ y = b)), ?_⟩
        have e2 : (k2.spent.addFile b).uses k1.used = k2.spent.addFile b := by rw [h.used]; rfl
        rw [e2] at h1
        exact h1
theorem append_R {R : Rel} {k1 k2 : Dk} {s : ByteArray} {l : List Nat} (h : Sib R k1 k2) (hd : k1.dead = k2.dead) (hc : k1.can = true) (hc2 : k2.can = true) : AlikeR R (appendK k1 s l) (appendK k2 s l) := by
  unfold appendK
  rw [h.find hd, h.used, h.quota, hc, hc2]
  split
  · split
    · exact h.same _
    · rcases h.L.look s.data.toList with ⟨e1, e2⟩ | ⟨a, b, e1, e2, hab⟩
      · rw [e1, e2]; exact h.same _
      · rw [e1, e2]
        have := h.spent.setFile hab ((k1.file a).add l) (k2.used + l.length)
        refine ⟨rfl, R, ?_⟩
        simp only [if_true]
        rw [← h.file a b hab]
        exact this
  · exact h.same _
theorem trunc_R {R : Rel} {k1 k2 : Dk} {s : ByteArray} {m : Int} (h : Sib R k1 k2) (hd : k1.dead = k2.dead) (hc : k1.can = true) (hc2 : k2.can = true) : AlikeR R (truncK k1 s m) (truncK k2 s m) := by
  unfold truncK
  rw [h.find hd, h.used, hc, hc2]
  split
  · rcases h.L.look s.data.toList with ⟨e1, e2⟩ | ⟨a, b, e1, e2, hab⟩
    · rw [e1, e2]; exact h.same _
    · rw [e1, e2]
      simp only [if_true]
      rw [h.file a b hab]
      split
      · exact h.same _
      · have := h.spent.setFile hab ((k2.file b).trim m.toNat) (k2.used - ((k2.file b).seen.length - m))
        exact ⟨rfl, R, this⟩
  · exact h.same _
theorem sync_R {R : Rel} {k1 k2 : Dk} {s : ByteArray} (h : Sib R k1 k2) (hd : k1.dead = k2.dead) (hc : k1.can = true) (hc2 : k2.can = true) : AlikeR R (syncK k1 s) (syncK k2 s) := by
  unfold syncK
  rw [h.find hd, hc, hc2]
  split
  · rcases h.L.look s.data.toList with ⟨e1, e2⟩ | ⟨a, b, e1, e2, hab⟩
    · rw [e1, e2]; exact h.same _
    · rw [e1, e2]
      simp only [if_true]
      rw [h.file a b hab]
      have := h.spent.setFile hab ⟨(k2.file b).seen, (k2.file b).seen, []⟩ k1.used
      have e2' : (k2.spent.setFile b ⟨(k2.file b).seen, (k2.file b).seen, []⟩).uses k1.used = k2.spent.setFile b ⟨(k2.file b).seen, (k2.file b).seen, []⟩ := by rw [h.used]; rfl
      rw [e2'] at this
      exact ⟨rfl, R, this⟩
  · exact h.same _
theorem syncDir_R {R : Rel} {k1 k2 : Dk} (h : Sib R k1 k2) (hd : k1.dead = k2.dead) (hc : k1.can = true) (hc2 : k2.can = true) : AlikeR R (syncDirK k1) (syncDirK k2) := by
  unfold syncDirK
  rw [hd, hc, hc2]
  split
  · exact h.same _
  · rw [if_pos rfl, if_pos rfl]
    exact ⟨rfl, R, h.spent.settled⟩
theorem rename_R {R : Rel} {k1 k2 : Dk} {s t : ByteArray} (h : Sib R k1 k2) (hd : k1.dead = k2.dead) (hc : k1.can = true) (hc2 : k2.can = true) : AlikeR R (renameK k1 s t) (renameK k2 s t) := by
  unfold renameK
  rw [h.find hd, hd, h.used, h.size t, hc, hc2]
  split
  · exact h.same _
  · split
    · exact h.same _
    · split
      · rw [if_pos rfl, if_pos rfl]
        exact ⟨rfl, R, h.spent.did (.inr (.inl ⟨_, _, rfl, rfl⟩)) _⟩
      · exact h.same _
theorem remove_R {R : Rel} {k1 k2 : Dk} {s : ByteArray} (h : Sib R k1 k2) (hd : k1.dead = k2.dead) (hc : k1.can = true) (hc2 : k2.can = true) : AlikeR R (removeK k1 s) (removeK k2 s) := by
  unfold removeK
  rw [h.find hd, h.used, h.size s, hc, hc2]
  split
  · rw [if_pos rfl, if_pos rfl]
    exact ⟨rfl, R, h.spent.did (.inr (.inr ⟨_, rfl, rfl⟩)) _⟩
  · exact h.same _
theorem chK_R {R : Rel} {k1 k2 : Dk} {a b : Nat} {kd m : Int} {nm to : ByteArray} {l : List Nat} (h : Sib R k1 k2) (hd : k1.dead = k2.dead) (hc : k1.can = true) (hc2 : k2.can = true) (ha : ¬ k1.live a) (hb : ¬ k2.live b) : AlikeR R (chK k1 kd nm to m l a) (chK k2 kd nm to m l b) := by
  unfold chK
  split
  · exact create_R h hd hc hc2 ha hb
  · split
    · exact append_R h hd hc hc2
    · split
      · exact trunc_R h hd hc hc2
      · split
        · exact sync_R h hd hc hc2
        · split
          · exact syncDir_R h hd hc hc2
          · split
            · exact rename_R h hd hc hc2
            · exact remove_R h hd hc hc2
end Go.Proofs.YthcnhjmkcekdaaaGreat

namespace Go.Proofs.YthcnhjmkcekdaaaGreat
open Go.RowKit Go.Maps Plain
set_option linter.unusedVariables false
set_option linter.unusedSimpArgs false
/-- The files of the past directories are there. -/
structure Dk.Past (k : Dk) : Prop where
  ld : ∀ p ∈ k.Ld, k.live p.2
  made : ∀ nm g, DC.mk nm g ∈ k.chg → k.live g
  few : k.Ld.length ≤ 65536
theorem on_mem {L : Dir} {c : DC} {p : Nm × Nat} (h : p ∈ DC.on L c) : p ∈ L ∨ (∃ nm, c = DC.mk nm p.2) ∨ ∃ q ∈ L, q.2 = p.2 := by
  cases c using DC.elim with
  | mk k g =>
    rw [DC.on_mk] at h
    rcases mem_put h with rfl | h
    · exact .inr (.inl ⟨k, rfl⟩)
    · exact .inl h
  | mv a b =>
    rw [DC.on_mv] at h
    cases e : look L a with
    | none => rw [e] at h; exact .inl h
    | some g =>
      rw [e] at h
      rcases mem_put (mem_del h) with rfl | h
      · exact .inr (.inr ⟨_, look_mem e, rfl⟩)
      · exact .inl h
  | rm k =>
    rw [DC.on_rm] at h
    exact .inl (mem_del h)
theorem dst_live {lv : Nat → Prop} : ∀ (cs : List DC) (L : Dir), (∀ p ∈ L, lv p.2) → (∀ nm g, DC.mk nm g ∈ cs → lv g) → ∀ p ∈ dst L cs, lv p.2
  | [], L, h1, h2, p, hp => h1 p hp
  | c :: cs, L, h1, h2, p, hp => dst_live cs (DC.on L c) (fun q hq => by
      rcases on_mem hq with h | ⟨nm, h⟩ | ⟨r, hr, e⟩
      · exact h1 q h
      · exact h2 nm q.2 (by rw [← h]; simp)
      · rw [← e]; exact h1 r hr) (fun nm g hg => h2 nm g (List.mem_cons_of_mem _ hg)) p hp
theorem on_len (L : Dir) (c : DC) : (DC.on L c).length ≤ L.length + 1 := by
  cases c using DC.elim with
  | mk k g => rw [DC.on_mk]; exact len_put _ _ _
  | mv a b =>
    rw [DC.on_mv]
    cases e : look L a with
    | none => show L.length ≤ _; omega
    | some g =>
      show (del (put L b g) a).length ≤ _
      have h1 := len_del (put L b g) a
      have h2 := len_put L b g
      omega
  | rm k => rw [DC.on_rm]; have := len_del L k; omega
theorem dst_len : ∀ (cs : List DC) (L : Dir), (dst L cs).length ≤ L.length + cs.length
  | [], L => by show L.length ≤ _; simp
  | c :: cs, L => by
    have h1 := dst_len cs (DC.on L c)
    have h2 := on_len L c
    show (dst (DC.on L c) cs).length ≤ _
    rw [List.length_cons]
    omega
theorem Dk.Past.crash {k : Dk} {n : Nat} (h : k.Past) (hd : k.Dok n) (hn : n ≤ 2000000000000) (ps : List Int) : (∀ p ∈ crL k ps, k.live p.2) ∧ (crL k ps).length ≤ 2199023255000 := by
  refine ⟨dst_live _ _ h.ld (fun nm g hg => h.made nm g (List.mem_of_mem_take hg)), ?_⟩
  have h1 := dst_len (k.chg.take (upV ps k.chg.length)) k.Ld
  have h2 := h.few
  have h3 := hd.cnt
  have h4 : (k.chg.take (upV ps k.chg.length)).length ≤ k.chg.length := by rw [List.length_take]; omega
  unfold crL
  omega
theorem Dk.Past.chK {k : Dk} {n G : Nat} {kd m : Int} {nm to : ByteArray} {l : List Nat} (h : k.Past) (hd : k.Dok n) : (chK k kd nm to m l G).2.Past := by
  have same : ∀ k' : Dk, k'.Ld = k.Ld → k'.chg = k.chg → k'.live = k.live → k'.Past := fun k' e1 e2 e3 => ⟨by rw [e1, e3]; exact h.ld, by rw [e2, e3]; exact h.made, by rw [e1]; exact h.few⟩
  have did : ∀ (k' : Dk) (c : DC), k'.Ld = k.Ld → k'.chg = k.chg ++ [c] → k'.live = k.live → (∀ nm g, c ≠ DC.mk nm g) → k'.Past := fun k' c e1 e2 e3 hc => ⟨by rw [e1, e3]; exact h.ld, fun nm g hg => by
    rw [e2] at hg
    rcases List.mem_append.mp hg with hg | hg
    · rw [e3]; exact h.made nm g hg
    · simp at hg; exact absurd hg.symm (hc nm g), by rw [e1]; exact h.few⟩
  unfold Go.Proofs.YthcnhjmkcekdaaaGreat.chK
  split
  · unfold createK
    split
    · exact h
    · split
      · exact h
      · split
        · exact h
        · split
          · refine ⟨fun p hp => .inl (h.ld p hp), fun nm' g hg => ?_, h.few⟩
            have hg' : DC.mk nm' g ∈ k.chg ++ [DC.mk nm.data.toList G] := hg
            rcases List.mem_append.mp hg' with hg | hg
            · exact .inl (h.made nm' g hg)
            · simp at hg
              have e : (nm', g) = (nm.data.toList, G) := Sum.inl.inj hg
              exact .inr (by simpa using (Prod.mk.inj e).2)
          · exact same _ rfl rfl rfl
  · split
    · unfold appendK
      split
      · split
        · exact h
        · split
          · split
            · exact same _ rfl rfl rfl
            · exact same _ rfl rfl rfl
          · exact h
      · exact h
    · split
      · unfold truncK
        split
        · split
          · split
            · exact h
            · split
              · exact same _ rfl rfl rfl
              · exact same _ rfl rfl rfl
          · exact h
        · exact h
      · split
        · unfold syncK
          split
          · split
            · split
              · exact same _ rfl rfl rfl
              · exact same _ rfl rfl rfl
            · exact h
          · exact h
        · split
          · unfold syncDirK
            split
            · exact h
            · split
              · exact ⟨hd.ok.refs, (fun nm g hg => absurd hg (by intro hh; exact (List.not_mem_nil hh).elim)), hd.few⟩
              · exact same _ rfl rfl rfl
          · split
            · unfold renameK
              split
              · exact h
              · split
                · exact h
                · split
                  · split
                    · exact did _ _ rfl rfl rfl (fun _ _ e => by cases e)
                    · exact same _ rfl rfl rfl
                  · exact h
            · unfold removeK
              split
              · split
                · exact did _ _ rfl rfl rfl (fun _ _ e => by cases e)
                · exact same _ rfl rfl rfl
              · exact h
end Go.Proofs.YthcnhjmkcekdaaaGreat

namespace Go.Proofs.YthcnhjmkcekdaaaGreat
open Go.RowKit Go.Maps Plain
set_option linter.unusedVariables false
set_option linter.unusedSimpArgs false
/-- A file's bytes at every moment since its last sync. -/
def sts (f : Fl) : List (List Nat) := (List.range (f.chg.length + 1)).map fun j => fst f.dur (f.chg.take j)
def grw (c : FC) : Int := Sum.elim (fun b => (b.length : Int)) (fun _ => -1) c
theorem grw_add (b : List Nat) : grw (FC.add b) = b.length := rfl
theorem grw_cut (n : Nat) : grw (FC.cut n) = -1 := rfl
def grs (f : Fl) : List Int := -1 :: f.chg.map grw
theorem sts_len (f : Fl) : (sts f).length = f.chg.length + 1 := by simp [sts]
theorem sts_at (f : Fl) {j : Nat} (h : j ≤ f.chg.length) : (sts f).getD j [] = fst f.dur (f.chg.take j) := by
  unfold sts
  rw [List.getD_eq_getElem?_getD, List.getElem?_map, List.getElem?_range (by omega)]
  rfl
/-- What the law keeps. -/
structure Ps where
  files : List (List (List Nat))
  grown : List (List Int)
  dirs : List (List (Nm × Nat))
/-- How what is kept stands to the disk. -/
structure PsR (k : Dk) (ν : Nat → Nat) (p : Ps) : Prop where
  inj : ∀ G H, k.live G → k.live H → ν G = ν H → G = H
  len : p.grown.length = p.files.length
  file : ∀ G, k.live G → ν G < p.files.length ∧ p.files.getD (ν G) [] = sts (k.file G) ∧ p.grown.getD (ν G) [] = grs (k.file G)
  dlen : p.dirs.length = k.chg.length + 1
  dir : ∀ j, j ≤ k.chg.length → (p.dirs.getD j []).Perm ((dst k.Ld (k.chg.take j)).map fun q => (q.1, ν q.2))
  nod : ∀ j, j ≤ k.chg.length → ((dst k.Ld (k.chg.take j)).map (·.1)).Nodup
end Go.Proofs.YthcnhjmkcekdaaaGreat
