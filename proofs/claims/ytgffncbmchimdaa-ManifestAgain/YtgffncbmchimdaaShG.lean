import Derived.Test.YtgffncbmchimdaaShF
/-! The law on Rename: what is known of these disks; the operations on a disk that lies in new memory. -/
namespace Go.Proofs.Ytgffncbmchimdaa
open Go.RowKit Go.Maps Plain
set_option linter.unusedVariables false
set_option linter.unusedSimpArgs false

theorem szA : nmA.size ≤ maxLen := by unfold maxLen; decide
theorem szT : nmT.size ≤ maxLen := by unfold maxLen; decide
theorem d1 (G : Nat) : (s1 G).Dok 1 := by have := create_dok (G := G) (fresh_dok 1073741824) szA (by omega); rwa [show createK (Dk.fresh 1073741824) nmA G = (0, s1 G) from t1 G] at this
theorem u1 (G : Nat) : (s1 G).Uok := ⟨by simp [s1, dk], by simp [s1, dk], fun p hp => by
  simp only [s1, dk, List.mem_singleton] at hp
  subst hp
  show (((upd F0 G ⟨[], [], []⟩ G).seen.length : Nat) : Int) ≤ 0
  rw [upd_same]; simp⟩
theorem d2 (G : Nat) (o : List Nat) (h : o.length ≤ 1000) : (s2 G o).Dok 2 := by have := append_dok (s := nmA) (b := o) (d1 G) (u1 G) (by omega); rwa [t2 G o h] at this
theorem d3 (G : Nat) (o : List Nat) (h : o.length ≤ 1000) : (s3 G o).Dok 3 := by have := sync_dok (s := nmA) (d2 G o h); rwa [t3] at this
theorem d4 (G H : Nat) (o : List Nat) (h : o.length ≤ 1000) : (s4 G o H).Dok 4 := by have := create_dok (G := H) (d3 G o h) szT (by omega); rwa [t4] at this
theorem u4 (G H : Nat) (o : List Nat) (h : o.length ≤ 1000) (hne : G ≠ H) : (s4 G o H).Uok := ⟨by simp [s4, dk]; omega, by simp [s4, dk], fun p hp => by
  simp only [s4, dk, List.mem_cons, List.not_mem_nil, or_false] at hp
  rcases hp with rfl | rfl
  · show (((upd (F3 G o) H ⟨[], [], []⟩ G).seen.length : Nat) : Int) ≤ (o.length : Int)
    rw [upd_other _ _ _ _ hne, F3G]; exact Int.le_refl _
  · show (((upd (F3 G o) H ⟨[], [], []⟩ H).seen.length : Nat) : Int) ≤ (o.length : Int)
    rw [upd_same]; simp⟩
theorem d5 (G H : Nat) (o f : List Nat) (h : o.length ≤ 1000) (h2 : f.length ≤ 1000) (hne : G ≠ H) : (s5 G o H f).Dok 5 := by have := append_dok (s := nmT) (b := f) (d4 G H o h) (u4 G H o h hne) (by omega); rwa [t5 G H o f h h2] at this
theorem d6 (G H : Nat) (o f : List Nat) (h : o.length ≤ 1000) (h2 : f.length ≤ 1000) (hne : G ≠ H) : (s6 G o H f).Dok 6 := by have := sync_dok (s := nmT) (d5 G H o f h h2 hne); rwa [t6] at this
theorem d7 (G H : Nat) (o f : List Nat) (h : o.length ≤ 1000) (h2 : f.length ≤ 1000) (hne : G ≠ H) : (s7 G o H f).Dok 7 := by have := syncDir_dok (d6 G H o f h h2 hne); rwa [t7] at this
theorem u7 (G H : Nat) (o f : List Nat) (h : o.length ≤ 1000) (h2 : f.length ≤ 1000) (hne : G ≠ H) : (s7 G o H f).Uok := ⟨by simp [s7, dk]; omega, by simp [s7, dk], fun p hp => by
  simp only [s7, dk, List.mem_cons, List.not_mem_nil, or_false] at hp
  rcases hp with rfl | rfl
  · show (((F6 G o H f G).seen.length : Nat) : Int) ≤ (o.length : Int) + f.length
    rw [F6G _ _ _ _ hne]; show (o.length : Int) ≤ _; omega
  · show (((F6 G o H f H).seen.length : Nat) : Int) ≤ (o.length : Int) + f.length
    rw [F6H]; show (f.length : Int) ≤ _; omega⟩
theorem d8 (G H : Nat) (o f : List Nat) (h : o.length ≤ 1000) (h2 : f.length ≤ 1000) (hne : G ≠ H) : (s8 G o H f).Dok 8 := by have := rename_dok (d7 G H o f h h2 hne) szT szA (by omega); rwa [t8 G H o f hne] at this
theorem d9 (G H : Nat) (o f : List Nat) (h : o.length ≤ 1000) (h2 : f.length ≤ 1000) (hne : G ≠ H) : (s9 G o H f).Dok 9 := by have := syncDir_dok (d8 G H o f h h2 hne); rwa [t9] at this

theorem nms2 (G H : Nat) : nms [(kA, G), (kT, H)] = [kA, kT] := srt_of (List.Perm.refl _) (by simp [kA, kT]; decide)
theorem nms1 (H : Nat) : nms [(kA, H)] = [kA] := srt_of (List.Perm.refl _) (by simp)
theorem lf_still (ps : List Int) (x : List Nat) : lf ps ⟨x, x, []⟩ = (x, ps.tail) := by
  unfold lf lfB
  simp [fst]
theorem crL8 (G H : Nat) (o f : List Nat) (ps : List Int) : crL (s8 G o H f) ps = [(kA, G), (kT, H)] ∨ crL (s8 G o H f) ps = [(kA, H)] := by
  have h := upV_le ps 1
  unfold crL
  rw [show (s8 G o H f).chg.length = 1 from rfl]
  rcases Nat.lt_or_ge (upV ps 1) 1 with h1 | h1
  · rw [show upV ps 1 = 0 by omega]; exact .inl rfl
  · rw [show upV ps 1 = 1 by omega]; exact .inr rfl
theorem im2 (G H : Nat) (o f : List Nat) (hne : G ≠ H) (ps : List Int) : imgL [(kA, G), (kT, H)] (fun ps g => (lf ps (F6 G o H f g)).1) (fun ps g => (lf ps (F6 G o H f g)).2) ps (nms [(kA, G), (kT, H)]) = [(kA, o), (kT, f)] := by
  rw [nms2]
  have e1 : fileOf [(kA, G), (kT, H)] kA = G := rfl
  have e2 : fileOf [(kA, G), (kT, H)] kT = H := rfl
  simp only [imgL, e1, e2, F6G _ _ _ _ hne, F6H, lf_still]
theorem im1 (G H : Nat) (o f : List Nat) (ps : List Int) : imgL [(kA, H)] (fun ps g => (lf ps (F6 G o H f g)).1) (fun ps g => (lf ps (F6 G o H f g)).2) ps (nms [(kA, H)]) = [(kA, f)] := by
  rw [nms1]
  have e1 : fileOf [(kA, H)] kA = H := rfl
  simp only [imgL, e1, F6H, lf_still]
theorem cr8 (G H : Nat) (o f : List Nat) (hne : G ≠ H) (ps : List Int) : crK (s8 G o H f) ps = [(kA, o), (kT, f)] ∨ crK (s8 G o H f) ps = [(kA, f)] := by
  unfold crK
  rcases crL8 G H o f ps with h | h
  · rw [h]; exact .inl (im2 G H o f hne _)
  · rw [h]; exact .inr (im1 G H o f _)
theorem crL9 (G H : Nat) (o f : List Nat) (ps : List Int) : crL (s9 G o H f) ps = [(kA, H)] := by
  unfold crL
  rw [show (s9 G o H f).chg = [] from rfl, List.take_nil]
  rfl
theorem cr9 (G H : Nat) (o f : List Nat) (ps : List Int) : crK (s9 G o H f) ps = [(kA, f)] := by
  unfold crK
  rw [crL9]
  exact im1 G H o f _

/-- A disk in memory that was not there in world W. -/
def Dsk (W : World) (d : Nat) (k : Dk) (w1 : World) : Prop := Below W.heap.size W w1 ∧ ∃ S, DiskAt w1 d k S ∧ ∀ x, S x → W.heap.size ≤ x
theorem Dsk.later {W w1 w2 : World} {d : Nat} {k : Dk} (h : Dsk W d k w1) (hb : Below w1.heap.size w1 w2) : Dsk W d k w2 := by
  obtain ⟨h1, S, h2, h3⟩ := h
  exact ⟨h1.trans (hb.mono h1.size), S, h2.later hb, h3⟩
theorem Dsk.liveLt {W w1 : World} {d G : Nat} {k : Dk} (h : Dsk W d k w1) (hG : k.live G) : G < w1.heap.size := by
  obtain ⟨_, S, ⟨ms, md, vc, rc, Sf, hm, _⟩, _⟩ := h
  exact (hm.files G hG).self
theorem Dsk.op {W w1 w2 : World} {d : Nat} {S : Nat → Prop} {r : Int × Dk} {e : Ending} (h1 : Below W.heap.size W w1) (h3 : ∀ x, S x → W.heap.size ≤ x) (h : OpPost d r S w1 e w2) : e = .returned (.int .i64 r.1) ∧ Dsk W d r.2 w2 := by
  obtain ⟨rfl, h4, h5⟩ := h
  refine ⟨rfl, h1.trans (h5.below h1.size h3), _, h4, fun x hx => ?_⟩
  rcases hx with hx | hx
  · exact h3 x hx
  · have := h1.size; omega
abbrev DPost (W : World) (d : Nat) (r : Int × Dk) : Ending → World → Prop := fun e w2 => e = .returned (.int .i64 r.1) ∧ Dsk W d r.2 w2
theorem createD {W w1 : World} {d n : Nat} {k : Dk} {s : ByteArray} (h : Dsk W d k w1) (hs : s.size ≤ maxLen) (hk : k.Dok n) (hn : n ≤ 4398046511103) : Calls Try.prog 21 #[.pointer (some ⟨d, 0, none⟩), .string s] w1 fun e w2 => ∃ G, w1.heap.size ≤ G ∧ DPost W d (createK k s G) e w2 := by
  obtain ⟨h1, S, h2, h3⟩ := h
  refine (createOf d k n S s hs w1 h2 hk hn).mono ?_
  rintro e w2 ⟨G, hG, hp⟩
  exact ⟨G, hG, Dsk.op h1 h3 hp⟩
theorem appendD {W w1 : World} {d n : Nat} {k : Dk} {s : ByteArray} {v : Value} {b : List Nat} (h : Dsk W d k w1) (hs : s.size ≤ maxLen) (hb : BytesAt W v b) (hk : k.Dok n) (hu : k.Uok) (hn : n ≤ 4398046511103) : Calls Try.prog 22 #[.pointer (some ⟨d, 0, none⟩), .string s, v] w1 (DPost W d (appendK k s b)) := by
  obtain ⟨h1, S, h2, h3⟩ := h
  refine (appendOf d k n S s hs v b w1 h2 hk.ok hu hn (fun w' hc => hb.later (h1.trans (hc.below h1.size h3)))).mono ?_
  rintro e w2 hp
  exact Dsk.op h1 h3 hp
theorem syncD {W w1 : World} {d n : Nat} {k : Dk} {s : ByteArray} (h : Dsk W d k w1) (hs : s.size ≤ maxLen) (hk : k.Dok n) (hn : n ≤ 4398046511103) : Calls Try.prog 8 #[.pointer (some ⟨d, 0, none⟩), .string s] w1 (DPost W d (syncK k s)) := by
  obtain ⟨h1, S, h2, h3⟩ := h
  refine (syncOf d k n S s hs w1 h2 hk.ok hn).mono ?_
  rintro e w2 hp
  exact Dsk.op h1 h3 hp
theorem syncDirD {W w1 : World} {d n : Nat} {k : Dk} (h : Dsk W d k w1) (hk : k.Dok n) (hn : n ≤ 4398046511103) : Calls Try.prog 9 #[.pointer (some ⟨d, 0, none⟩)] w1 (DPost W d (syncDirK k)) := by
  obtain ⟨h1, S, h2, h3⟩ := h
  refine (syncDirOf d k n S w1 h2 hk hn).mono ?_
  rintro e w2 hp
  exact Dsk.op h1 h3 hp
theorem renameD {W w1 : World} {d n : Nat} {k : Dk} {s t : ByteArray} (h : Dsk W d k w1) (hs : s.size ≤ maxLen) (ht : t.size ≤ maxLen) (hk : k.Dok n) (hu : k.Uok) (hn : n ≤ 4398046511103) : Calls Try.prog 27 #[.pointer (some ⟨d, 0, none⟩), .string s, .string t] w1 (DPost W d (renameK k s t)) := by
  obtain ⟨h1, S, h2, h3⟩ := h
  refine (renameOf d k n S s t hs ht w1 h2 hk hu hn).mono ?_
  rintro e w2 hp
  exact Dsk.op h1 h3 hp
theorem crashD {W w1 : World} {d n : Nat} {k : Dk} {a : Option Addr} {m c : Nat} {ps : List Int} (h : Dsk W d k w1) (hk : k.Dok n) (hp : PicksAt W (.slice a m c) ps) (hpo : PicksOff W.heap.size (.slice a m c)) (hlv : ∀ p ∈ crL k ps, k.live p.2) (hfew : (crL k ps).length ≤ 2199023255000) :
    Calls Try.prog 12 #[.pointer (some ⟨d, 0, none⟩), .slice a m c] w1 fun e w2 => ∃ a l c, e = .returned (.slice a l c) ∧ ImgAt w2 (.slice a l c) (crK k ps) W.heap.size ∧ Dsk W d k w2 := by
  obtain ⟨h1, S, h2, h3⟩ := h
  have hs1 := h1.size
  refine (crashOf w1 d k n S h2 hk a m c ps (hp.cells hpo (fun b hb => h1.block b hb)) (fun b off n c e => by have := hpo b off n c e; omega) hlv hfew).mono ?_
  rintro e w2 ⟨a', l', c', rfl, hi, hb⟩
  exact ⟨a', l', c', rfl, hi.base hs1, Dsk.later ⟨h1, S, h2, h3⟩ hb⟩
theorem readD {W w1 : World} {d n : Nat} {k : Dk} {s : ByteArray} (h : Dsk W d k w1) (hs : s.size ≤ maxLen) (hk : k.Dok n) (A M : Nat) (hM : M ≤ 9223372036854775807) (h0 : (fnd k.dead k.L s).2 = 0) (hA : A ≤ sizeK k s) :
    Calls Try.prog 23 #[.pointer (some ⟨d, 0, none⟩), .string s, .int .i64 (A : Int), .int .i64 (M : Int)] w1 fun e w2 => ∃ a l c r, e = .returned (.tuple #[.slice a l c, .int .i64 0]) ∧ Own w2 (.slice a l c) (rdB k s A M) r ∧ Below w1.heap.size w1 w2 := by
  obtain ⟨h1, S, h2, h3⟩ := h
  refine (readOk (St.start h2) hk.ok s hs A M hM h0 hA).mono ?_
  rintro e w2 ⟨a, l, c, r, rfl, ho, _, hb, _⟩
  exact ⟨a, l, c, r, rfl, ho, hb⟩

set_option maxRecDepth 1000000 in
theorem newOf (q : Int) (hq1 : 0 ≤ q) (hq2 : q ≤ 1073741824) (w : World) : Calls Try.prog 20 #[.int .i64 q] w fun e w' => e = .returned (.tuple #[.pointer (some ⟨w.heap.size, 0, none⟩), .int .i64 0]) ∧ Dsk w w.heap.size (Dk.fresh q) w' := by
  have HL : Hid (Calls Try.prog 13 #[.slice none 0 0, .int .i64 q] w fun e w' => e = .returned (.tuple #[.pointer (some ⟨w.heap.size, 0, none⟩), .int .i64 0]) ∧ Dsk w w.heap.size (Dk.fresh q) w') := by
    refine (loadNil q (by omega) (by omega) w).mono ?_
    rintro e w' (⟨h, _⟩ | ⟨_, rfl, h1, h2⟩)
    · simp [qB, hq1, hq2] at h
    · refine ⟨rfl, ((Below.refl _ w).alloc (Nat.le_refl _) _).trans (h2.below (by simp) (fun x hx => by omega)), _, h1, fun x hx => ?_⟩
      rcases hx with hx | hx
      · omega
      · simp at hx; omega
  go_enter Try.func20, Try.ntmps20
  go_wp2_with fail
  refine HL.out.mono ?_
  rintro e w1 ⟨rfl, h1⟩
  have HP : Hid (Dsk w w.heap.size (Dk.fresh q) w1) := h1
  clear h1
  go_wp2
  go_ret2
  exact ⟨rfl, HP.out⟩
end Go.Proofs.Ytgffncbmchimdaa
