import Derived.Test.YtgffncbmchimdaaSfD
/-! Steps of a disk; SyncDir, Create. -/
namespace Go.Proofs.Ytgffncbmchimdaa
open Go.RowKit Go.Maps Plain
set_option linter.unusedVariables false
set_option linter.unusedSimpArgs false

/-- From w to w' the disk has become k, and nothing of before was touched but what is of S. -/
def St (S : Nat → Prop) (w : World) (d : Nat) (k : Dk) (w' : World) : Prop := DiskAt w' d k (Ext S w w') ∧ Chg S w w'
theorem DiskAt.rng {w : World} {d : Nat} {k : Dk} {S : Nat → Prop} (h : DiskAt w d k S) : ∀ x, S x → x < w.heap.size := by
  obtain ⟨_, _, _, _, _, _, _, _, h4⟩ := h
  exact h4
theorem DiskAt.wide {w : World} {d : Nat} {k : Dk} {S T : Nat → Prop} (h : DiskAt w d k S) (h1 : ∀ x, S x → T x) (h2 : ∀ x, T x → x < w.heap.size) : DiskAt w d k T := by
  obtain ⟨ms, md, vc, rc, Sf, a1, a2, a3, a4⟩ := h
  exact ⟨ms, md, vc, rc, Sf, a1, fun x hx => h1 x (a2 x hx), fun G x hG hx => h1 x (a3 G x hG hx), h2⟩
theorem Ext.lt {S : Nat → Prop} {w w' : World} (h : ∀ x, S x → x < w.heap.size) (hs : w.heap.size ≤ w'.heap.size) : ∀ x, Ext S w w' x → x < w'.heap.size := fun x hx => by
  rcases hx with hx | hx
  · have := h x hx; omega
  · exact hx.2
theorem St.start {w : World} {d : Nat} {k : Dk} {S : Nat → Prop} (h : DiskAt w d k S) : St S w d k w := ⟨h.wide (fun _ hx => .inl hx) (Ext.lt h.rng (Nat.le_refl _)), Chg.refl _ _⟩
theorem St.next {w w1 w2 : World} {d : Nat} {k1 k2 : Dk} {S : Nat → Prop} (h : St S w d k1 w1) (h2 : St (Ext S w w1) w1 d k2 w2) : St S w d k2 w2 := by
  have hc : Chg S w w2 := ⟨h2.2.os.trans h.2.os, h2.2.tape.trans h.2.tape, h2.2.output.trans h.2.output, Nat.le_trans h.2.size h2.2.size, fun i hi hs => by
    rw [h2.2.block i (Nat.lt_of_lt_of_le hi h.2.size) (fun e => by
      rcases e with e | e
      · exact hs e
      · omega)]
    exact h.2.block i hi hs⟩
  refine ⟨h2.1.wide (fun x hx => ?_) (fun x hx => ?_), hc⟩
  · have := h.2.size
    have := h2.2.size
    rcases hx with (hx | hx) | hx
    · exact .inl hx
    · exact .inr ⟨hx.1, by omega⟩
    · exact .inr ⟨by omega, hx.2⟩
  · have q1 := h.2.size
    have q2 := h2.2.size
    rcases hx with hx | hx
    · have := h.1.rng x (.inl hx); omega
    · exact hx.2
theorem St.below {w w1 w2 : World} {d : Nat} {k : Dk} {S : Nat → Prop} (h : St S w d k w1) (hb : Below w1.heap.size w1 w2) : St S w d k w2 :=
  h.next ⟨(h.1.later hb).wide (fun _ hx => .inl hx) (Ext.lt h.1.rng hb.size), Chg.ofBelow hb⟩
theorem St.at {w w1 : World} {d : Nat} {k : Dk} {S : Nat → Prop} (h : St S w d k w1) : ∃ ms md vc rc Sf, DiskM w1 d k ms md vc rc Sf := by
  obtain ⟨ms, md, vc, rc, Sf, a1, _⟩ := h.1
  exact ⟨ms, md, vc, rc, Sf, a1⟩

theorem spendSt (d : Nat) (k : Dk) (T : Nat → Prop) (w : World) (h : DiskAt w d k T) (h1 : 0 ≤ k.ops) (h2 : k.ops ≤ 4611686018427387904) (h3 : k.fused = true → 0 ≤ k.left ∧ k.left ≤ 9223372036854775807) :
    Calls Try.prog 32 #[.pointer (some ⟨d, 0, none⟩)] w fun e w' => e = .returned (.bool k.can) ∧ St T w d k.spent w' := by
  obtain ⟨ms, md, vc, rc, Sf, hm, hS1, hS2, hS3⟩ := h
  refine (spendOf d _ _ _ _ _ k.ops k.left k.fused k.dead w hm.cells h1 h2 h3).mono ?_
  rintro e w2 ⟨rfl, hb2, hg2⟩
  refine ⟨rfl, ⟨ms, md, vc, rc, Sf, hm.spent hb2 hg2, fun x hx => .inl (hS1 x hx), fun G x hG hx => .inl (hS2 G x hG hx), Ext.lt hS3 hg2.size⟩, (Chg.refl _ _).grown hg2 (fun g e => by simp at e; subst e; exact .inl (hS1 _ (.inl rfl)))⟩

/-- What is true of a disk's directory behind n operations. -/
structure Dk.Dok (k : Dk) (n : Nat) : Prop where
  ok : k.Ok n
  dir : DOk k.Ld k.chg
  eq : k.L = dst k.Ld k.chg
  cnt : k.chg.length ≤ n
  few : k.L.length ≤ 65536

def syncDirK (k : Dk) : Int × Dk := if k.dead then (34, k) else if k.can then (0, k.spent.settled) else (34, k.spent)

set_option maxHeartbeats 2000000 in
set_option maxRecDepth 100000 in
theorem syncDirOf (d : Nat) (k : Dk) (n : Nat) (S : Nat → Prop) (w : World) (h : DiskAt w d k S) (hk : k.Dok n) (hn : n ≤ 4398046511103) : Calls Try.prog 9 #[.pointer (some ⟨d, 0, none⟩)] w (OpPost d (syncDirK k) S w) := by
  have HS : Hid (St S w d k w) := St.start h
  obtain ⟨ms, md, vc, rc, Sf, hm⟩ := HS.out.at
  have HR : Hid (Calls Try.prog 29 #[.pointer (some ⟨d, 0, none⟩), .slice none 0 0] w fun e w' => e = .returned (.int .i64 (rdy k.dead [])) ∧ w' = w) := readyOf d k.dead [] _ w hm.at0.2 (StrsAt.none w)
  have HSP : Hid (Calls Try.prog 32 #[.pointer (some ⟨d, 0, none⟩)] w fun e w' => e = .returned (.bool k.can) ∧ St S w d k.spent w') := spendSt d k S w h hk.ok.ops.1 (by have := hk.ok.ops.2; omega) hk.ok.fuse
  have HK : Hid (k.Dok n) := hk
  clear hm h hk
  cases hdd : k.dead with
  | true =>
    have HE : Hid (syncDirK k = (34, k)) := by unfold Hid syncDirK; rw [hdd]; rfl
    rw [HE.out]
    rw [hdd, show rdy true [] = 34 from rfl] at HR
    clear hdd
    go_enter Try.func9, Try.ntmps9
    go_wp2_with fail
    refine HR.out.mono ?_
    rintro e w1 ⟨rfl, rfl⟩
    go_wp2
    go_ret
    exact ⟨rfl, HS.out⟩
  | false =>
    rw [hdd, show rdy false [] = 0 from rfl] at HR
    cases hc : k.can with
    | false =>
      have HE : Hid (syncDirK k = (34, k.spent)) := by unfold Hid syncDirK; rw [hdd, hc]; rfl
      rw [HE.out]
      rw [hc] at HSP
      clear hdd hc
      go_enter Try.func9, Try.ntmps9
      go_wp2_with fail
      refine HR.out.mono ?_
      rintro e w1 ⟨rfl, rfl⟩
      go_wp2_with fail
      refine HSP.out.mono ?_
      rintro e w2 ⟨rfl, hs2⟩
      have HS2 : Hid (St S w1 d k.spent w2) := hs2
      clear hs2
      go_wp2
      go_ret
      exact ⟨rfl, HS2.out⟩
    | true =>
      have HE : Hid (syncDirK k = (0, k.spent.settled)) := by unfold Hid syncDirK; rw [hdd, hc]; rfl
      rw [HE.out]
      rw [hc] at HSP
      clear hdd hc
      go_enter Try.func9, Try.ntmps9
      go_wp2_with fail
      refine HR.out.mono ?_
      rintro e w1 ⟨rfl, rfl⟩
      go_wp2_with fail
      refine HSP.out.mono ?_
      rintro e w2 ⟨rfl, hs2⟩
      have HS2 : Hid (St S w1 d k.spent w2) := hs2
      clear hs2
      go_wp2_with fail
      refine (settleDOf w2 d k.spent _ HS2.out.1 HK.out.dir HK.out.eq).mono ?_
      rintro e w3 ⟨rfl, hs3⟩
      have HS3 : Hid (St S w1 d k.spent.settled w3) := HS2.out.next hs3
      clear hs3
      go_wp2
      go_ret
      exact ⟨rfl, HS3.out⟩

def Dk.addFile (k : Dk) (G : Nat) : Dk := { k with file := upd k.file G ⟨[], [], []⟩, live := fun x => k.live x ∨ x = G }
def emptyF : Obj := .cells #[.slice none 0 0, .slice none 0 0, .slice none 0 0] 78
theorem addFileM {w : World} {d : Nat} {k : Dk} {ms md : Option Nat} {vc : Value} {rc : Option Nat} {Sf : Nat → Nat → Prop} (h : DiskM w d k ms md vc rc Sf) (hl : ∀ G, k.live G → G < w.heap.size) : DiskM (w.alloc emptyF) d (k.addFile w.heap.size) ms md vc rc (upd Sf w.heap.size (fun x => x = w.heap.size)) := by
  have hb : Below w.heap.size w (w.alloc emptyF) := (Below.refl _ _).alloc (Nat.le_refl _) _
  have h' := h.later hb
  have hne : ∀ G, k.live G → G ≠ w.heap.size := fun G hG => Nat.ne_of_lt (hl G hG)
  have hd := h.dlt
  have hnew : FileAt (w.alloc emptyF) w.heap.size ⟨[], [], []⟩ (fun x => x = w.heap.size) := by
    refine ⟨.slice none 0 0, .slice none 0 0, .slice none 0 0, none, none, none, [], fun _ => none, ⟨?_, Own.nil _, Own.nil _, ⟨OwnV.nil _, rfl, by simp, by simp⟩, by simp, by simp, by simp, by simp⟩, fun k hk => ?_, fun k hk => ?_⟩
    · show (w.heap.push emptyF)[w.heap.size]? = _
      simp [emptyF]
    · rcases hk with rfl | hk | hk | hk | ⟨j, hk⟩
      · rfl
      all_goals simp at hk
    · subst hk; simp
  refine ⟨h'.cells, h'.seen, h'.dur, h'.chg, fun G hG => ?_, h'.sepS, h'.sepD, h'.sepC, fun G hG x hx => ?_, fun G1 G2 h1 h2 hne12 x hx hx2 => ?_⟩
  · by_cases e : G = w.heap.size
    · subst e
      show FileAt _ _ (upd k.file _ _ _) (upd Sf _ _ _)
      rw [upd_same, upd_same]
      exact hnew
    · show FileAt _ _ (upd k.file _ _ _) (upd Sf _ _ _)
      rw [upd_other _ _ _ _ e, upd_other _ _ _ _ e]
      exact h'.files G (hG.resolve_right e)
  · by_cases e : G = w.heap.size
    · subst e
      rw [upd_same] at hx
      subst hx
      exact ⟨by omega, fun e => by have := h.seen.rlt _ e; omega, fun e => by have := h.dur.rlt _ e; omega, fun e => by have := h.chg.rlt _ e; omega⟩
    · rw [upd_other _ _ _ _ e] at hx
      exact h'.sepF G (hG.resolve_right e) x hx
  · by_cases e1 : G1 = w.heap.size
    · subst e1
      rw [upd_same] at hx
      subst hx
      rw [upd_other _ _ _ _ (Ne.symm hne12)] at hx2
      have := (h.files G2 (h2.resolve_right (Ne.symm hne12))).live _ hx2
      omega
    · rw [upd_other _ _ _ _ e1] at hx
      by_cases e2 : G2 = w.heap.size
      · subst e2
        rw [upd_same] at hx2
        subst hx2
        have := (h.files G1 (h1.resolve_right e1)).live _ hx
        omega
      · rw [upd_other _ _ _ _ e2] at hx2
        exact h.sepFF G1 G2 (h1.resolve_right e1) (h2.resolve_right e2) hne12 x hx hx2
theorem FileAt.self {w : World} {G : Nat} {f : Fl} {S : Nat → Prop} (h : FileAt w G f S) : G < w.heap.size := by
  obtain ⟨_, _, _, _, _, _, _, _, h1, h2, h3⟩ := h
  exact h3 G (h2 G (.inl rfl))
theorem addFileSt {w w1 : World} {d : Nat} {k : Dk} {S : Nat → Prop} (h : St S w d k w1) : St S w d (k.addFile w1.heap.size) (w1.alloc emptyF) := by
  obtain ⟨⟨ms, md, vc, rc, Sf, hm, hS1, hS2, hS3⟩, hc⟩ := h
  have hb : Below w1.heap.size w1 (w1.alloc emptyF) := (Below.refl _ _).alloc (Nat.le_refl _) _
  have hsz : (w1.alloc emptyF).heap.size = w1.heap.size + 1 := by simp
  have hcs := hc.size
  refine ⟨⟨ms, md, vc, rc, _, addFileM hm (fun G hG => (hm.files G hG).self), fun x hx => ?_, fun G x hG hx => ?_, fun x hx => ?_⟩, hc.more hb⟩
  · rcases hS1 x hx with h | h
    · exact .inl h
    · exact .inr ⟨h.1, by omega⟩
  · by_cases e : G = w1.heap.size
    · subst e
      rw [upd_same] at hx
      subst hx
      exact .inr ⟨by omega, by omega⟩
    · rw [upd_other _ _ _ _ e] at hx
      rcases hS2 G x (hG.resolve_right e) hx with h | h
      · exact .inl h
      · exact .inr ⟨h.1, by omega⟩
  · rcases hx with hx | hx
    · have := hS3 x (.inl hx); omega
    · exact hx.2
end Go.Proofs.Ytgffncbmchimdaa
