import Derived.Test.YthcnhjmkcekdaaaGreatQs03
import Derived.Lib.SliceRun
import Derived.WalkSpells
namespace Go.Proofs.YthcnhjmkcekdaaaGreat
open Go.RowKit Go.Maps Plain
set_option linter.unusedVariables false
set_option linter.unusedSimpArgs false
def upd {α : Type} (f : Nat → α) (G : Nat) (v : α) : Nat → α := fun x => if x = G then v else f x
theorem upd_same {α : Type} (f : Nat → α) (G : Nat) (v : α) : upd f G v G = v := by simp [upd]
theorem upd_other {α : Type} (f : Nat → α) (G x : Nat) (v : α) (h : x ≠ G) : upd f G v x = f x := by simp [upd, h]
def Dk.spent (k : Dk) : Dk := { k with ops := (spd k.ops k.fused k.left k.dead).2.1, left := (spd k.ops k.fused k.left k.dead).2.2.1, dead := (spd k.ops k.fused k.left k.dead).2.2.2 }
def Dk.can (k : Dk) : Bool := (spd k.ops k.fused k.left k.dead).1
def Dk.setFile (k : Dk) (G : Nat) (f : Fl) : Dk := { k with file := upd k.file G f }
theorem DiskM.spent {w w' : World} {d : Nat} {k : Dk} {ms md : Option Nat} {vc : Value} {rc : Option Nat} {Sf : Nat → Nat → Prop} (h : DiskM w d k ms md vc rc Sf)
    (hb : w'.heap[d]? = some (.cells #[.map ms, .map md, vc, .int .i64 k.used, .int .i64 k.quota, .int .i64 k.spent.ops, .bool k.fused, .int .i64 k.spent.left, .bool k.spent.dead] 70)) (hg : w.grownBy w' (some d)) : DiskM w' d k.spent ms md vc rc Sf := by
  have keep : ∀ x, x < w.heap.size → x ≠ d → w'.heap[x]? = w.heap[x]? := fun x hx h1 => hg.block x hx (by simpa using h1)
  refine ⟨hb, h.seen.of_block (fun b e => keep b ?_ (h.sepS b e).1), h.dur.of_block (fun b e => keep b ?_ (h.sepD b e).1), h.chg.of_block hg.size (fun b e => keep b (h.chg.rlt b e) (h.sepC b e)), fun G hG => ?_, h.sepS, h.sepD, h.sepC, h.sepF, h.sepFF⟩
  · have := h.seen; rw [e] at this; exact this.lt
  · have := h.dur; rw [e] at this; exact this.lt
  · have hF : FileAt w G (k.file G) (Sf G) := h.files G hG
    refine hF.frame hg.size (fun x hx => keep x ?_ (h.sepF G hG x hx).1)
    obtain ⟨_, _, _, _, _, _, _, _, _, _, h3⟩ := hF
    exact h3 x hx
theorem FileAt.live {w : World} {G : Nat} {f : Fl} {S : Nat → Prop} (h : FileAt w G f S) : ∀ x, S x → x < w.heap.size := by
  obtain ⟨_, _, _, _, _, _, _, _, _, _, h3⟩ := h
  exact h3
theorem DiskM.setFile {w w' : World} {d : Nat} {k : Dk} {ms md : Option Nat} {vc : Value} {rc : Option Nat} {Sf : Nat → Nat → Prop} {G : Nat} {f : Fl} {S' : Nat → Prop} (h : DiskM w d k ms md vc rc Sf) (hG : k.live G) (hf : FileAt w' G f S') (hc : Chg (Sf G) w w') (hS : ∀ x, S' x → Sf G x ∨ w.heap.size ≤ x) :
    DiskM w' d (k.setFile G f) ms md vc rc (upd Sf G S') := by
  have hd : d < w.heap.size := (Array.getElem?_eq_some_iff.mp h.cells).1
  have msl : ∀ b, ms = some b → b < w.heap.size := fun b e => by have := h.seen; rw [e] at this; exact this.lt
  have mdl : ∀ b, md = some b → b < w.heap.size := fun b e => by have := h.dur; rw [e] at this; exact this.lt
  have rcl := h.chg.rlt
  have keep : ∀ x, x < w.heap.size → ¬ Sf G x → w'.heap[x]? = w.heap[x]? := fun x hx h1 => hc.block x hx h1
  refine ⟨(keep d hd (fun e => (h.sepF G hG d e).1 rfl)).trans h.cells, h.seen.of_block (fun b e => keep b (msl b e) (fun e2 => (h.sepF G hG b e2).2.1 e)), h.dur.of_block (fun b e => keep b (mdl b e) (fun e2 => (h.sepF G hG b e2).2.2.1 e)), h.chg.of_block hc.size (fun b e => keep b (rcl b e) (fun e2 => (h.sepF G hG b e2).2.2.2 e)), ?_, h.sepS, h.sepD, h.sepC, ?_, ?_⟩
  · intro G' hG'
    by_cases e : G' = G
    · subst e
      show FileAt w' G' (upd k.file G' f G') (upd Sf G' S' G')
      rw [upd_same, upd_same]
      exact hf
    · show FileAt w' G' (upd k.file G f G') (upd Sf G S' G')
      rw [upd_other _ _ _ _ e, upd_other _ _ _ _ e]
      exact (h.files G' hG').frame hc.size (fun x hx => keep x ((h.files G' hG').live x hx) (h.sepFF G' G hG' hG e x hx))
  · intro G' hG' x hx
    by_cases e : G' = G
    · subst e
      rw [upd_same] at hx
      rcases hS x hx with h1 | h1
      · exact h.sepF G' hG x h1
      · exact ⟨by omega, fun e => by have := msl x e; omega, fun e => by have := mdl x e; omega, fun e => by have := rcl x e; omega⟩
    · rw [upd_other _ _ _ _ e] at hx
      exact h.sepF G' hG' x hx
  · intro G1 G2 h1 h2 hne x hx hx2
    by_cases e1 : G1 = G
    · subst e1
      rw [upd_same] at hx
      rw [upd_other _ _ _ _ (Ne.symm hne)] at hx2
      rcases hS x hx with h3 | h3
      · exact h.sepFF G1 G2 h1 h2 hne x h3 hx2
      · have := (h.files G2 h2).live x hx2; omega
    · rw [upd_other _ _ _ _ e1] at hx
      by_cases e2 : G2 = G
      · subst e2
        rw [upd_same] at hx2
        rcases hS x hx2 with h3 | h3
        · exact h.sepFF G1 G2 h1 h2 hne x hx h3
        · have := (h.files G1 h1).live x hx; omega
      · rw [upd_other _ _ _ _ e2] at hx2
        exact h.sepFF G1 G2 h1 h2 hne x hx hx2
/-- What is true of a disk behind n operations. -/
structure Dk.Ok (k : Dk) (n : Nat) : Prop where
  refs : ∀ p ∈ k.L, k.live p.2
  fok : ∀ G, k.live G → (k.file G).Ok ∧ (k.file G).chg.length ≤ n
  ops : 0 ≤ k.ops ∧ k.ops ≤ n
  fuse : k.fused = true → 0 ≤ k.left ∧ k.left ≤ 9223372036854775807
theorem look_mem {L : Dir} {s : Nm} {g : Nat} (h : look L s = some g) : (s, g) ∈ L := by
  unfold look at h
  cases e : L.find? (fun p => p.1 == s) with
  | none => rw [e] at h; simp at h
  | some p =>
    rw [e] at h
    simp at h
    have h1 := List.find?_some e
    have h2 := List.mem_of_find?_eq_some e
    simp at h1
    subst h1 h
    exact h2
theorem DiskM.at0 {w : World} {d : Nat} {k : Dk} {ms md : Option Nat} {vc : Value} {rc : Option Nat} {Sf : Nat → Nat → Prop} (h : DiskM w d k ms md vc rc Sf) : w.cell? ⟨d, 0, none⟩ = some (.map ms) ∧ w.cell? ⟨d, 8, none⟩ = some (.bool k.dead) := by
  obtain ⟨⟨c0, _, _, _, _, _, _, _, c8⟩, _⟩ := dcells h.cells
  exact ⟨c0, c8⟩
theorem DiskM.later {w w' : World} {d : Nat} {k : Dk} {ms md : Option Nat} {vc : Value} {rc : Option Nat} {Sf : Nat → Nat → Prop} (h : DiskM w d k ms md vc rc Sf) (hb : Below w.heap.size w w') : DiskM w' d k ms md vc rc Sf :=
  h.frame hb.size (fun x hx => hb.block x (by
    rcases hx with rfl | hx | hx | hx
    · exact (Array.getElem?_eq_some_iff.mp h.cells).1
    · have := h.seen; rw [hx] at this; exact this.lt
    · have := h.dur; rw [hx] at this; exact this.lt
    · exact h.chg.rlt x hx)) (fun G x hG hx => hb.block x ((h.files G hG).live x hx))
/-- What Sync does. -/
def syncK (k : Dk) (s : ByteArray) : Int × Dk := if (fnd k.dead k.L s).2 = 0 then (match look k.L s.data.toList with
    | some G => if k.can then (0, k.spent.setFile G ⟨(k.file G).seen, (k.file G).seen, []⟩) else (34, k.spent)
    | none => (31, k)) else ((fnd k.dead k.L s).2, k)
theorem fnd_ok {dead : Bool} {L : Dir} {s : ByteArray} (h : (fnd dead L s).2 = 0) : ∃ g, look L s.data.toList = some g ∧ fnd dead L s = (.pointer (some ⟨g, 0, none⟩), 0) := by
  unfold fnd at h ⊢
  cases dead with
  | true => simp at h
  | false =>
    cases hn : nmL s.data.toList with
    | false => rw [hn] at h; simp at h
    | true =>
      rw [hn] at h
      cases hl : look L s.data.toList with
      | none => rw [hl] at h; simp at h
      | some g => exact ⟨g, rfl, rfl⟩
theorem fnd_bad {dead : Bool} {L : Dir} {s : ByteArray} (h : (fnd dead L s).2 ≠ 0) : (fnd dead L s).1 = .pointer none := by
  unfold fnd at h ⊢
  cases dead with
  | true => rfl
  | false =>
    cases hn : nmL s.data.toList with
    | false => rfl
    | true =>
      rw [hn] at h
      cases hl : look L s.data.toList with
      | none => rfl
      | some g => rw [hl] at h; simp at h
def OpPost (d : Nat) (r : Int × Dk) (S : Nat → Prop) (w : World) : Ending → World → Prop := fun e w' => e = .returned (.int .i64 r.1) ∧ DiskAt w' d r.2 (Ext S w w') ∧ Chg S w w'
set_option maxHeartbeats 2000000 in
set_option maxRecDepth 100000 in
theorem syncOf (d : Nat) (k : Dk) (n : Nat) (S : Nat → Prop) (s : ByteArray) (hs : s.size ≤ maxLen) (w : World) (h : DiskAt w d k S) (hk : k.Ok n) (hn : n ≤ 4398046511103) : Calls Tryz.prog 45 #[.pointer (some ⟨d, 0, none⟩), .string s] w (OpPost d (syncK k s) S w) := by
  obtain ⟨ms, md, vc, rc, Sf, hm, hS1, hS2, hS3⟩ := h
  have HM : Hid (DiskM w d k ms md vc rc Sf) := hm
  have HS1 : Hid (∀ x, footD d ms md rc x → S x) := hS1
  have HS2 : Hid (∀ G x, k.live G → Sf G x → S x) := hS2
  have HS3 : Hid (∀ x, S x → x < w.heap.size) := hS3
  have HK : Hid (k.Ok n) := hk
  have HB1 : Hid (Below w.heap.size w (w.alloc (.cells #[.string s] 9))) := (Below.refl _ _).alloc (Nat.le_refl _) _
  have HFD : Hid (Calls Tryz.prog 79 #[.pointer (some ⟨d, 0, none⟩), .string s] w fun e w' => e = .returned (.tuple #[(fnd k.dead k.L s).1, .int .i64 (fnd k.dead k.L s).2]) ∧ w' = w.alloc (.cells #[.string s] 9)) := findOf d ms k.L k.dead s hs w hm.at0.1 hm.at0.2 hm.seen
  clear hm hS1 hS2 hS3
  by_cases h0 : (fnd k.dead k.L s).2 = 0
  · obtain ⟨G, hl, hfe⟩ := fnd_ok h0
    rw [hfe] at HFD
    have hG : k.live G := hk.refs _ (look_mem hl)
    have HM1 : Hid (DiskM (w.alloc (.cells #[.string s] 9)) d k ms md vc rc Sf) := HM.out.later HB1.out
    have HSP := spendOf d _ _ _ _ _ k.ops k.left k.fused k.dead (w.alloc (.cells #[.string s] 9)) HM1.out.cells hk.ops.1 (by have := hk.ops.2; omega) hk.fuse
    have HSY : Hid (syncK k s = if k.can then (0, k.spent.setFile G ⟨(k.file G).seen, (k.file G).seen, []⟩) else (34, k.spent)) := by unfold Hid syncK; rw [if_pos h0, hl]
    have HLG : Hid (k.live G) := hG
    have HFO : Hid (k.file G).Ok := (hk.fok G hG).1
    clear hk hl hfe h0 hG
    obtain ⟨W1, hW1⟩ : ∃ W1, w.alloc (.cells #[.string s] 9) = W1 := ⟨_, rfl⟩
    rw [hW1] at HFD HM1 HSP HB1
    clear hW1
    cases hc : k.can with
    | false =>
      have hcs : (spd k.ops k.fused k.left k.dead).1 = false := hc
      rw [hcs] at HSP
      rw [HSY.out, hc, if_neg (by simp)]
      clear hc hcs HSY
      go_enter Tryz.func45, Tryz.ntmps45
      go_wp2_with fail
      refine HFD.out.mono ?_
      rintro e w1 ⟨rfl, rfl⟩
      go_wp2_with fail
      refine HSP.mono ?_
      rintro e w2 ⟨rfl, hb2, hg2⟩
      have HM2 : Hid (DiskM w2 d k.spent ms md vc rc Sf) := HM1.out.spent hb2 hg2
      have HC2 : Hid (Chg S w w2) := (Chg.ofBelow HB1.out).grown hg2 (fun g e => by simp at e; subst e; exact .inl (HS1.out _ (.inl rfl)))
      clear hb2 hg2 HSP
      go_wp2
      go_ret
      exact ⟨rfl, ⟨ms, md, vc, rc, Sf, HM2.out, fun x hx => .inl (HS1.out x hx), fun G x hG hx => .inl (HS2.out G x hG hx), fun x hx => by
        rcases hx with hx | hx
        · have := HS3.out x hx; have := HC2.out.size; omega
        · exact hx.2⟩, HC2.out⟩
    | true =>
      have hcs : (spd k.ops k.fused k.left k.dead).1 = true := hc
      rw [hcs] at HSP
      rw [HSY.out, hc, if_pos rfl]
      clear hc hcs HSY
      go_enter Tryz.func45, Tryz.ntmps45
      go_wp2_with fail
      refine HFD.out.mono ?_
      rintro e w1 ⟨rfl, rfl⟩
      go_wp2_with fail
      refine HSP.mono ?_
      rintro e w2 ⟨rfl, hb2, hg2⟩
      have HM2 : Hid (DiskM w2 d k.spent ms md vc rc Sf) := HM1.out.spent hb2 hg2
      have HC2 : Hid (Chg S w w2) := (Chg.ofBelow HB1.out).grown hg2 (fun g e => by simp at e; subst e; exact .inl (HS1.out _ (.inl rfl)))
      clear hb2 hg2 HSP
      go_wp2_with fail
      refine (settleFile w2 G _ _ (HM2.out.files G HLG.out) HFO.out).mono ?_
      rintro e w3 ⟨rfl, hf3, hc3⟩
      have HC3 : Hid (Chg S w w3) := HC2.out.trans (hc3.mono (fun x hx => HS2.out G x HLG.out hx))
      have HM3 : Hid (DiskM w3 d (k.spent.setFile G ⟨(k.file G).seen, (k.file G).seen, []⟩) ms md vc rc (upd Sf G (Ext (Sf G) w2 w3))) := HM2.out.setFile HLG.out hf3 hc3 (fun x hx => by
        rcases hx with hx | hx
        · exact .inl hx
        · exact .inr hx.1)
      have HS23 : Hid (w.heap.size ≤ w2.heap.size ∧ w2.heap.size ≤ w3.heap.size) := ⟨HC2.out.size, hc3.size⟩
      clear hf3 hc3
      go_wp2
      go_ret
      refine ⟨rfl, ⟨ms, md, vc, rc, _, HM3.out, fun x hx => .inl (HS1.out x hx), fun G' x hG' hx => ?_, fun x hx => ?_⟩, HC3.out⟩
      · by_cases e : G' = G
        · subst e
          rw [upd_same] at hx
          rcases hx with hx | hx
          · exact .inl (HS2.out G' x HLG.out hx)
          · exact .inr ⟨by have := HS23.out; omega, hx.2⟩
        · rw [upd_other _ _ _ _ e] at hx
          exact .inl (HS2.out G' x hG' hx)
      · rcases hx with hx | hx
        · have := HS3.out x hx; have := HC3.out.size; omega
        · exact hx.2
  · have HSY : Hid (syncK k s = ((fnd k.dead k.L s).2, k)) := by unfold Hid syncK; rw [if_neg h0]
    rw [HSY.out]
    have hp := fnd_bad h0
    rw [hp] at HFD
    obtain ⟨z, hz⟩ : ∃ z, (fnd k.dead k.L s).2 = z := ⟨_, rfl⟩
    rw [hz] at HFD h0 ⊢
    have hne : (z != 0) = true := by simpa using h0
    have hne2 : (z == 0) = false := beq_eq_false_iff_ne.mpr h0
    clear hz hp h0 hk
    go_enter Tryz.func45, Tryz.ntmps45
    go_wp2_with fail
    refine HFD.out.mono ?_
    rintro e w1 ⟨rfl, rfl⟩
    go_wp2
    go_ret
    exact ⟨rfl, ⟨ms, md, vc, rc, Sf, HM.out.later HB1.out, fun x hx => .inl (HS1.out x hx), fun G x hG hx => .inl (HS2.out G x hG hx), fun x hx => by
      rcases hx with hx | hx
      · have := HS3.out x hx; have := HB1.out.size; omega
      · exact hx.2⟩, Chg.ofBelow HB1.out⟩
end Go.Proofs.YthcnhjmkcekdaaaGreat

namespace Go.Proofs.YthcnhjmkcekdaaaGreat
open Go.RowKit Go.Maps Plain
set_option linter.unusedVariables false
set_option linter.unusedSimpArgs false
theorem bytes_none {w : World} {n cap : Nat} {l : List Nat} (h : BytesAt w (.slice none n cap) l) : l = [] := by
  obtain ⟨a', cap', e, _, _, _, h5⟩ := h
  simp only [Value.slice.injEq] at e
  apply Classical.byContradiction
  intro hne
  obtain ⟨b, off, e2, _⟩ := h5 hne
  rw [e2] at e; simp at e
theorem cloneOf (v : Value) (l : List Nat) (w : World) (h : BytesAt w v l) (hl : l.length ≤ 140737488355328) :
    Calls Tryz.prog 74 #[v] w fun e w' => ∃ v' r', e = .returned v' ∧ Own w' v' l r' ∧ Below w.heap.size w w' ∧ (∀ g, r' = some g → w.heap.size ≤ g) := by
  have HB : Hid (BytesAt w v l) := h
  obtain ⟨a, cap, rfl, _⟩ := h
  cases a with
  | none =>
    have hl0 : l = [] := bytes_none HB.out
    subst hl0
    have hq := fun wx => Lib.run_eql_slice_nil (P := Tryz.prog) wx 34 5 none 0 cap 0 0 Tryz.underlying34
    clear HB
    go_enter Tryz.func74, Tryz.ntmps74
    go_wp2
    go_ret
    exact ⟨_, none, rfl, Own.nil w, Below.refl _ _, by simp⟩
  | some x =>
    have hq := fun wx => Lib.run_eql_slice_nil (P := Tryz.prog) wx 34 5 (some x) l.length cap 0 0 Tryz.underlying34
    go_enter Tryz.func74, Tryz.ntmps74
    go_wp2_with (at_builtin; refine wpList_append_row _ rfl _ _ 34 34 rfl Tryz.underlying34 _ _ [] l (some w.heap.size) rfl rfl ?hOwn ?hByte ?hSrc ?hLen ?_)
    case hOwn => exact Own.empty w 5
    case hByte => exact HB.out.byte
    case hSrc => exact src_of Tryz.underlying34 (HB.out.later ((Below.refl _ _).alloc (Nat.le_refl _) _))
    case hLen => simpa using hl
    intro v3 w3 r3 ho3 hg3 hr3 hn3
    have HB3 : Hid (Below w.heap.size w w3) := grow_below (grow_trans (World.grownBy_alloc w _ none) hg3 (.inr (.inr ⟨_, rfl, Nat.le_refl _⟩))) (Nat.le_refl _) (by simp)
    have HO3 : Hid (Own w3 v3 l r3) := ho3
    have HR3 : Hid (∀ g, r3 = some g → w.heap.size ≤ g) := by
      intro g hg
      rcases hr3 with rfl | rfl
      · simp at hg; omega
      · simp at hg; omega
    clear ho3 hg3 hr3 hn3 hq
    go_wp2
    go_ret
    exact ⟨v3, r3, rfl, HO3.out, HB3.out, HR3.out⟩
theorem FileAt.wide {w : World} {G : Nat} {f : Fl} {S T : Nat → Prop} (h : FileAt w G f S) (h1 : ∀ k, S k → T k) (h2 : ∀ k, T k → k < w.heap.size) : FileAt w G f T := by
  obtain ⟨vs, vd, vc, rs, rd, rc, vals, blk, a1, a2, a3⟩ := h
  exact ⟨vs, vd, vc, rs, rd, rc, vals, blk, a1, fun k hk => h1 k (a2 k hk), h2⟩
set_option maxRecDepth 1000000 in
theorem truOntoOf (n : Nat) (sa : Option Addr) (ns cs : Nat) (w : World) (hn : n ≤ ns) (h1 : ns ≤ cs) (h2 : cs ≤ 2 ^ 63 - 1) : Calls Tryz.prog 132 #[.agg #[.int .i64 ((n : Nat) : Int)], .slice sa ns cs] w fun e w' => e = .returned (.slice sa n cs) ∧ Below w.heap.size w w' := by
  go_enter Tryz.func132, Tryz.ntmps132
  go_wp2
  go_ret
  exact ⟨rfl, (Below.refl _ _).alloc (Nat.le_refl _) _⟩
set_option maxHeartbeats 2000000 in
set_option maxRecDepth 1000000 in
theorem doCut (w : World) (G : Nat) (f : Fl) (S : Nat → Prop) (n : Nat) (h : FileAt w G f S) (hf : f.Ok) (hn : n ≤ f.seen.length) :
    Calls Tryz.prog 80 #[.pointer (some ⟨G, 0, none⟩), .iface 136 (.agg #[.int .i64 ((n : Nat) : Int)])] w fun e w' => e = .returned (.tuple #[]) ∧ FileAt w' G ⟨f.seen.take n, f.dur, f.chg ++ [FC.cut n]⟩ (Ext S w w') ∧ Chg S w w' := by
  obtain ⟨vs, vd, vc, rs, rd, rc, vals, blk, hm, hS, hlt⟩ := h
  have HM : Hid (FileM w G f vs vd vc rs rd rc vals blk) := hm
  have HS : Hid (∀ k, footF G rs rd rc blk k → S k) := hS
  have HLT : Hid (∀ k, S k → k < w.heap.size) := hlt
  obtain ⟨c0, c1, c2, z0, z1, z2⟩ := fcells hm.blkG
  obtain ⟨sa, ns, cs, rfl⟩ := isSliceO hm.seen
  obtain ⟨ac, nc, cc, rfl⟩ := isSliceV hm.chg.row
  obtain ⟨q1, q2⟩ := own_cap hm.seen
  have q3 := own_len hm.seen
  have hGlt : G < w.heap.size := hlt G (hS G (.inl rfl))
  have hGs : some G ≠ rs := fun e => (hm.sepS G e.symm).1 rfl
  have hGc : some G ≠ rc := fun e => (hm.sepC G e.symm).1 rfl
  have HCN : Hid (vals.length ≤ 4398046511104) := by have := hf.cnt; have := hm.chg.len; unfold Hid; omega
  obtain ⟨i, hi0, hi1, hi2, hi3⟩ := info_fc
  have HI : Hid (Tryz.prog.info? 132 = some i ∧ i.zero = some .nilIface ∧ i.size = 1 ∧ i.bytes = 16) := ⟨hi0, hi1, hi2, hi3⟩
  have hme := methTru (.agg #[.int .i64 ((n : Nat) : Int)]) w
  have hnn : n ≤ ns := by omega
  have HN : Hid (n ≤ f.seen.length) := hn
  clear hm hS hlt hf hi0 hi1 hi2 hi3 hn q3
  go_enter Tryz.func80, Tryz.ntmps80
  go_wp2_with fail
  refine (truOntoOf n sa ns cs w hnn q1 q2).mono ?_
  rintro e w1 ⟨rfl, hb⟩
  have hg1 : w.grownBy w1 rs := below_grow hb rs
  have hb1 : w1.heap[G]? = some (.cells #[.slice sa ns cs, vd, .slice ac nc cc] 124) := (hb.block G hGlt).trans HM.out.blkG
  obtain ⟨d0, d1, d2, y0, y1, y2⟩ := fcells hb1
  have HO1 : Hid (Own w1 (.slice sa n cs) (f.seen.take n) rs) := (HM.out.seen.take n HN.out).later hb
  have HG1 : Hid (w.grownBy w1 rs) := hg1
  have HV1 : Hid (OwnV (w1.setCell ⟨G, 0, none⟩ (.slice sa n cs)) (.slice ac nc cc) vals rc) := (HM.out.chg.row.kept (below_grow hb none) (by
    cases rc <;> simp)).kept (grow_set w1 G 0 _) (by
    cases rc with
    | none => exact .inl rfl
    | some g => exact .inr (fun e => hGc (by rw [e])))
  have hG1 : G < w1.heap.size := by have := hb.size; omega
  clear hb hg1 hb1 c0 c1 c2 z0 z1 z2 hme
  go_wp2_with (at_builtin; refine wpList_append_val _ rfl _ _ 120 132 i .nilIface rfl Tryz.underlying120 HI.out.1 HI.out.2.1 rfl HI.out.2.2.1 (by rw [HI.out.2.2.2]; omega) _ _ (.iface 136 (.agg #[.int .i64 ((n : Nat) : Int)])) vals rc rfl rfl ?hOwn ?hSrc ?hLen ?_)
  case hOwn => exact HV1.out.kept (World.grownBy_alloc _ _ none) (by cases rc <;> simp)
  case hSrc => exact src_val' _ _ (by simp) _ rfl 120 132 132 Tryz.underlying120
  case hLen => exact HCN.out
  intro v4 w4 g4 ho4 hg4 hr4
  have hb4 : w4.heap[G]? = some (.cells #[.slice sa n cs, vd, .slice ac nc cc] 124) := (hg4.block G (by simp; omega) hGc).trans ((heap_alloc_old _ _ (by simp; omega)).trans (fset ((HG1.out.block G hGlt hGs).trans HM.out.blkG) _).1)
  obtain ⟨e0, e1, e2, x0, x1, x2⟩ := fcells hb4
  have HF : Hid (FileAt (w4.setCell ⟨G, 2, none⟩ v4) G ⟨f.seen.take n, f.dur, f.chg ++ [FC.cut n]⟩ (fun k => Ext S w (w4.setCell ⟨G, 2, none⟩ v4) k ∨ (none : Option Nat) = some k) ∧ Chg S w (w4.setCell ⟨G, 2, none⟩ v4)) :=
    doneF HM.out HS.out HLT.out HO1.out HG1.out (.inl rfl) (FC.cut n) _ none (ChOne.cut.mpr rfl) (by simp) _ ho4 hg4 (by simpa using hr4)
  obtain ⟨a4, n4, c4, rfl⟩ := isSliceV ho4
  clear ho4 hg4 hr4 hb4 d0 d1 d2 y0 y1 y2
  go_wp2
  go_end0
  refine ⟨rfl, HF.out.1.wide (fun k hk => ?_) (fun k hk => HF.out.1.live k (.inl hk)), HF.out.2⟩
  rcases hk with hk | hk
  · exact hk
  · simp at hk
end Go.Proofs.YthcnhjmkcekdaaaGreat

namespace Go.Proofs.YthcnhjmkcekdaaaGreat
open Go.RowKit Go.Maps Plain
set_option linter.unusedVariables false
set_option linter.unusedSimpArgs false
theorem MapAt.below {w w' : World} {b : Nat} {L : Dir} (h : MapAt w b L) (hb : Below w.heap.size w w') : MapAt w' b L := h.of_block (hb.block b h.lt)
theorem MapAt.stored {w : World} {b n : Nat} {L : Dir} {k : Nm} {g : Nat} (h : w.ownsMap Tryz.prog 9 Rp b n ((toD L).put (.string k) (.lit (.int .i64 (g : Int))))) : MapAt w b (put L k g) := by
  have := tight h
  rw [toD_put, toD_size] at this
  exact this
theorem MapAt.dropped {w : World} {b n : Nat} {L : Dir} {k : Nm} (h : w.ownsMap Tryz.prog 9 Rp b n ((toD L).del (.string k))) : MapAt w b (del L k) := by
  have := tight h
  rw [toD_del, toD_size] at this
  exact this
theorem Rp_ptr (g : Nat) : Rp (.pointer (some ⟨g, 0, none⟩)) = some (.lit (.int .i64 (g : Int)), []) := rfl
set_option maxRecDepth 1000000 in
theorem creOntoOf (s : ByteArray) (hs : s.size ≤ maxLen) (g : Nat) (m : Option Nat) (L : Dir) (w : World) (h : MapO w m L) (hL : L.length < 4398046511104) :
    Calls Tryz.prog 129 #[.agg #[.string s, .pointer (some ⟨g, 0, none⟩)], .map m] w fun e w' => ∃ b, e = .returned (.map (some b)) ∧ MapAt w' b (put L s.data.toList g) ∧ w.grownBy w' m ∧ (m = some b ∨ w.heap.size ≤ b) := by
  have hkey := key_str s hs
  have hmm := @run_makeMap Tryz.prog
  have q70 : ∀ (w : World) (r : Option Nat), (binOp .eql 65 (.map r) (.map none)).run Tryz.prog w = .ok (.bool r.isNone) w := fun w r => run_eql_map_nil w _ _ _ r Tryz.underlying65
  have HA : Hid (Below w.heap.size w (w.alloc (.cells #[.string s, .pointer (some ⟨g, 0, none⟩)] 77))) := (Below.refl _ _).alloc (Nat.le_refl _) _
  rcases h with ⟨rfl, rfl⟩ | ⟨b, rfl, h⟩
  · go_enter Tryz.func129, Tryz.ntmps129
    go_wp2_with (at_mapUpdate; go_must (refine wpList_mapUpdate_own _ rfl _ _ _ 65 rfl 9 74 keyed9 Tryz.underlying65 Rp (w.heap.size + 1) 0 (toD []) rfl ?hOwn (by unfold maxLen; omega) _ _ _ rfl rfl hkey _ [] (Rp_ptr g) ?_))
    case hOwn =>
      have := MapAt.made (w.alloc (.cells #[.string s, .pointer (some ⟨g, 0, none⟩)] 77))
      simpa [MapAt] using this
    intro w1 ho1 hg1
    have HP : Hid (MapAt w1 (w.heap.size + 1) (put [] s.data.toList g) ∧ w.grownBy w1 none) := by
      refine ⟨MapAt.stored ho1, grow_trans (grow_trans (World.grownBy_alloc _ _ none) (World.grownBy_alloc _ _ none) (.inl rfl)) hg1 (.inr (.inr ⟨_, rfl, by omega⟩))⟩
    clear ho1 hg1
    go_wp2
    go_ret
    exact ⟨_, rfl, HP.out.1, HP.out.2, .inr (by omega)⟩
  · have HO : Hid (MapAt w b L) := h
    clear h
    go_enter Tryz.func129, Tryz.ntmps129
    go_wp2_with (at_mapUpdate; refine wpList_mapUpdate_own _ rfl _ _ _ 65 rfl 9 74 keyed9 Tryz.underlying65 Rp b L.length (toD L) rfl ?hOwn (by unfold maxLen; omega) _ _ _ rfl rfl hkey _ [] (Rp_ptr g) ?_)
    case hOwn => exact HO.out.below HA.out
    intro w1 ho1 hg1
    have HP : Hid (MapAt w1 b (put L s.data.toList g) ∧ w.grownBy w1 (some b)) := by
      refine ⟨MapAt.stored ho1, grow_trans (World.grownBy_alloc _ _ (some b)) hg1 (.inl rfl)⟩
    clear ho1 hg1
    go_wp2
    go_ret
    exact ⟨_, rfl, HP.out.1, HP.out.2, .inl rfl⟩
set_option maxRecDepth 1000000 in
theorem remOntoOf (s : ByteArray) (hs : s.size ≤ maxLen) (b : Nat) (L : Dir) (w : World) (h : MapAt w b L) :
    Calls Tryz.prog 135 #[.agg #[.string s], .map (some b)] w fun e w' => e = .returned (.map (some b)) ∧ MapAt w' b (del L s.data.toList) ∧ w.grownBy w' (some b) := by
  have hkey := key_str s hs
  have HA : Hid (Below w.heap.size w (w.alloc (.cells #[.string s] 140))) := (Below.refl _ _).alloc (Nat.le_refl _) _
  have HO : Hid (MapAt w b L) := h
  clear h
  go_enter Tryz.func135, Tryz.ntmps135
  go_wp2_with (at_delete; go_must (refine wpList_delete_own _ rfl _ _ 65 9 rfl 74 keyed9 Tryz.underlying65 Rp b L.length (toD L) rfl ?hOwn _ _ rfl hkey ?_))
  case hOwn => exact HO.out.below HA.out
  intro w1 ho1 hg1
  have HP : Hid (MapAt w1 b (del L s.data.toList) ∧ w.grownBy w1 (some b)) := ⟨MapAt.dropped ho1, grow_trans (World.grownBy_alloc _ _ (some b)) hg1.grown (.inl rfl)⟩
  clear ho1 hg1
  go_wp2
  go_ret
  exact ⟨rfl, HP.out.1, HP.out.2⟩
set_option maxRecDepth 1000000 in
theorem renOntoOf (s t : ByteArray) (hs : s.size ≤ maxLen) (ht : t.size ≤ maxLen) (g b : Nat) (L : Dir) (w : World) (h : MapAt w b L) (hl : look L s.data.toList = some g) (hL : L.length < 4398046511104) :
    Calls Tryz.prog 134 #[.agg #[.string s, .string t], .map (some b)] w fun e w' => e = .returned (.map (some b)) ∧ MapAt w' b (del (put L t.data.toList g) s.data.toList) ∧ w.grownBy w' (some b) := by
  have hkey := key_str s hs
  have hket := key_str t ht
  have HA : Hid (Below w.heap.size w (w.alloc (.cells #[.string s, .string t] 138))) := (Below.refl _ _).alloc (Nat.le_refl _) _
  have HO : Hid (MapAt (w.alloc (.cells #[.string s, .string t] 138)) b L) := h.below HA.out
  have hlk := lookO (w.alloc (.cells #[.string s, .string t] 138)) (some b) L (.inr ⟨b, rfl, HO.out⟩) s hs
  rw [hl] at hlk
  simp only [ptrO, Option.elim] at hlk
  have hal0 : (w.alloc (.cells #[.string s, .string t] 138)).cell? ⟨w.heap.size, 0, none⟩ = some (.string s) := by rw [World.cell?_alloc_at _ _ _ _ rfl]; rfl
  have hbl : b < w.heap.size := h.lt
  clear h hl
  go_enter Tryz.func134, Tryz.ntmps134
  go_wp2_with (at_mapUpdate; refine wpList_mapUpdate_own _ rfl _ _ _ 65 rfl 9 74 keyed9 Tryz.underlying65 Rp b L.length (toD L) rfl HO.out (by unfold maxLen; omega) _ _ _ rfl rfl hket _ [] (Rp_ptr g) ?_)
  intro w1 ho1 hg1
  have HP1 : Hid (MapAt w1 b (put L t.data.toList g) ∧ w.grownBy w1 (some b)) := ⟨MapAt.stored ho1, grow_trans (World.grownBy_alloc _ _ (some b)) hg1 (.inl rfl)⟩
  have hc1 : w1.cell? ⟨w.heap.size, 0, none⟩ = some (.string s) := hg1.cell hal0 (fun e => by simp at e; omega)
  clear ho1 hg1 hlk hal0
  go_wp2_with (at_delete; go_must (refine wpList_delete_own _ rfl _ _ 65 9 rfl 74 keyed9 Tryz.underlying65 Rp b _ _ rfl HP1.out.1 _ _ rfl hkey ?_))
  intro w2 ho2 hg2
  have HP : Hid (MapAt w2 b (del (put L t.data.toList g) s.data.toList) ∧ w.grownBy w2 (some b)) := ⟨MapAt.dropped ho2, grow_trans HP1.out.2 hg2.grown (.inl rfl)⟩
  clear ho2 hg2 hc1
  go_wp2
  go_ret
  exact ⟨rfl, HP.out.1, HP.out.2⟩
end Go.Proofs.YthcnhjmkcekdaaaGreat

namespace Go.Proofs.YthcnhjmkcekdaaaGreat
open Go.RowKit Go.Maps Plain
set_option linter.unusedVariables false
set_option linter.unusedSimpArgs false
/-- A change can be done to a directory: its names are short, what it moves is there. -/
def DC.can (c : DC) (L : Dir) : Prop := Sum.elim (fun p => p.1.length ≤ maxLen) (Sum.elim (fun p => p.1.length ≤ maxLen ∧ p.2.length ≤ maxLen ∧ ∃ g, look L p.1 = some g) (fun k => k.length ≤ maxLen ∧ ∃ g, look L k = some g)) c
theorem str_size (k : Nm) : (str k).size = k.length := by simp [str, ByteArray.size]
/-- What the method of a change answers. -/
def OntoPost (m : Option Nat) (L : Dir) (w : World) (e : Ending) (w' : World) : Prop := ∃ b, e = .returned (.map (some b)) ∧ MapAt w' b L ∧ w.grownBy w' m ∧ (m = some b ∨ w.heap.size ≤ b)
theorem look_nil (k : Nm) : look [] k = none := rfl
theorem MapO.some_of_look {w : World} {m : Option Nat} {L : Dir} {k : Nm} {g : Nat} (h : MapO w m L) (hl : look L k = some g) : ∃ b, m = some b ∧ MapAt w b L := by
  rcases h with ⟨rfl, rfl⟩ | h
  · rw [look_nil] at hl; simp at hl
  · exact h
/-- The function and the receiver behind a change. -/
def DC.fn (c : DC) : Nat := Sum.elim (fun _ => 129) (Sum.elim (fun _ => 134) (fun _ => 135)) c
def DC.rcv (c : DC) : Value := Sum.elim (fun p => .agg #[.string (str p.1), .pointer (some ⟨p.2, 0, none⟩)]) (Sum.elim (fun p => .agg #[.string (str p.1), .string (str p.2)]) (fun k => .agg #[.string (str k)])) c
def DC.ty (c : DC) : TypeId := Sum.elim (fun _ => 77) (Sum.elim (fun _ => 138) (fun _ => 140)) c
theorem DC.val_eq (c : DC) : c.val = .iface c.ty c.rcv := by
  cases c using DC.elim <;> rfl
theorem DC.meth (c : DC) (W : World) : (method 293 c.ty c.rcv "chronicle/simfs.onto").run Tryz.prog W = .ok (c.fn, c.rcv) W := by
  cases c using DC.elim with
  | mk k g => exact methCre _ W
  | mv a b => exact methRen _ W
  | rm k => exact methRem _ W
theorem DC.enter (c : DC) (a b : Value) (W : World) : (callFunc c.fn #[a, b]).run Tryz.prog W = .ok (.enter c.fn #[a, b]) W := by
  cases c using DC.elim with
  | mk k g => show (callFunc 129 #[a, b]).run Tryz.prog W = .ok (.enter 129 #[a, b]) W; kernel_rfl
  | mv k g => show (callFunc 134 #[a, b]).run Tryz.prog W = .ok (.enter 134 #[a, b]) W; kernel_rfl
  | rm k => show (callFunc 135 #[a, b]).run Tryz.prog W = .ok (.enter 135 #[a, b]) W; kernel_rfl
theorem ontoOf (c : DC) (m : Option Nat) (L : Dir) (w : World) (h : MapO w m L) (hc : c.can L) (hL : L.length < 4398046511104) : Calls Tryz.prog c.fn #[c.rcv, .map m] w (OntoPost m (DC.on L c) w) := by
  cases c using DC.elim with
  | mk k g =>
    refine (creOntoOf (str k) (by rw [str_size]; exact hc) g m L w h hL).mono ?_
    rintro e w' ⟨b, h1, h2, h3⟩
    rw [str_list] at h2
    exact ⟨b, h1, h2, h3⟩
  | mv a t =>
    obtain ⟨h1, h2, g, hg⟩ := hc
    obtain ⟨b, rfl, hb⟩ := h.some_of_look hg
    refine (renOntoOf (str a) (str t) (by rw [str_size]; exact h1) (by rw [str_size]; exact h2) g b L w hb (by rw [str_list]; exact hg) hL).mono ?_
    rintro e w' ⟨h1, h2, h3⟩
    rw [str_list, str_list] at h2
    refine ⟨b, h1, ?_, h3, .inl rfl⟩
    rw [DC.on_mv]
    have hg' : look L a = some g := hg
    rw [hg']
    exact h2
  | rm k =>
    obtain ⟨h1, g, hg⟩ := hc
    obtain ⟨b, rfl, hb⟩ := h.some_of_look hg
    refine (remOntoOf (str k) (by rw [str_size]; exact h1) b L w hb).mono ?_
    rintro e w' ⟨h1, h2, h3⟩
    rw [str_list] at h2
    exact ⟨b, h1, h2, h3, .inl rfl⟩
/-- A row of changes that can be done, one behind the other. -/
structure DOk (L : Dir) (cs : List DC) : Prop where
  can : ∀ (k : Nat) (c : DC), cs[k]? = some c → c.can (dst L (cs.take k))
  len : ∀ k, (dst L (cs.take k)).length < 4398046511104
  cnt : cs.length ≤ 4398046511103
set_option maxHeartbeats 2000000 in
set_option maxRecDepth 1000000 in
theorem afterDOf (m : Option Nat) (vc : Value) (L : Dir) (cs : List DC) (rc : Option Nat) (w : World) (h : MapO w m L) (hc : OwnV w vc (cs.map DC.val) rc) (hr : ∀ g, m = some g → rc ≠ some g) (hk : DOk L cs) :
    Calls Tryz.prog 76 #[.map m, vc] w fun e w' => ∃ m', e = .returned (.map m') ∧ MapO w' m' (dst L cs) ∧ w.grownBy w' m ∧ (m' = m ∨ ∃ g, m' = some g ∧ w.heap.size ≤ g) := by
  have HO : Hid (MapO w m L) := h
  have HC : Hid (OwnV w vc (cs.map DC.val) rc) := hc
  have HR : Hid (∀ g, m = some g → rc ≠ some g) := hr
  have HK : Hid (DOk L cs) := hk
  obtain ⟨a, cap, rfl, hcm, hlc⟩ := hc.shape
  unfold maxLen at hcm
  rw [List.length_map] at hlc ⊢
  have hcnt := hk.cnt
  clear h hc hr hk
  go_enter Tryz.func76, Tryz.ntmps76
  go_wp2
  go_loopg [0, 9] cs.length (fun gk s0 s9 wx => ∃ (k : Nat) (m0 : Option Nat), k + gk = cs.length ∧ s9 = .int .i64 k ∧ s0 = .map m0 ∧ Hid (MapO wx m0 (dst L (cs.take k)) ∧ w.grownBy wx m ∧ (m0 = m ∨ ∃ g, m0 = some g ∧ w.heap.size ≤ g)))
  case atStart => exact ⟨0, m, by omega, rfl, rfl, HO.out, below_grow (Below.refl _ _) _, .inl rfl⟩
  case round =>
    obtain ⟨k, m0, hkg, rfl, rfl, HI⟩ := hrel
    cases gk with
    | zero =>
      obtain rfl : k = cs.length := by omega
      go_wp2
      go_ret
      have h1 := HI.out
      rw [List.take_length] at h1
      exact ⟨m0, rfl, h1⟩
    | succ gk1 =>
      have hk : k < cs.length := by omega
      obtain ⟨c, hck⟩ : ∃ c, cs[k]? = some c := ⟨_, List.getElem?_eq_getElem hk⟩
      have hC2 : OwnV wr (.slice a (cs.map DC.val).length cap) (cs.map DC.val) rc := by
        have h0 := HC.out
        exact h0.of_block HI.out.2.1.size (fun g e => HI.out.2.1.block g (h0.rlt g e) (fun e2 => HR.out g e2.symm e))
      obtain ⟨gc, hrc, hac, hcell⟩ := hC2.get (j := k) (u := c.val) (by rw [List.getElem?_map, hck]; rfl)
      subst hac
      rw [DC.val_eq] at hcell
      have HST : Hid (dst L (cs.take (k + 1)) = DC.on (dst L (cs.take k)) c) := dst_take L cs k c hck
      have HCA : Hid (Calls Tryz.prog c.fn #[c.rcv, .map m0] wr (OntoPost m0 (DC.on (dst L (cs.take k)) c) wr)) := ontoOf c m0 _ wr HI.out.1 (HK.out.can k c hck) (HK.out.len k)
      have hm := DC.meth c wr
      have hcf := DC.enter c
      clear hC2 hck
      generalize c.ty = ty at hm hcell
      generalize c.rcv = rcv at hm hcell HCA
      generalize c.fn = fn at hm HCA hcf
      go_wp2_with fail
      refine HCA.out.mono ?_
      rintro e w3 ⟨b3, rfl, ho3, hg3, hr3⟩
      have HN : Hid (MapO w3 (some b3) (dst L (cs.take (k + 1))) ∧ w.grownBy w3 m ∧ (some b3 = m ∨ ∃ g, some b3 = some g ∧ w.heap.size ≤ g)) := by
        have hsz := HI.out.2.1.size
        unfold Hid
        rw [HST.out]
        refine ⟨.inr ⟨b3, rfl, ho3⟩, grow_trans HI.out.2.1 hg3 ?_, ?_⟩
        · rcases HI.out.2.2 with h | ⟨g, h, h2⟩
          · exact .inl h
          · exact .inr (.inr ⟨g, h, h2⟩)
        · rcases hr3 with e | e
          · rw [← e]
            rcases HI.out.2.2 with h | ⟨g, h, h2⟩
            · exact .inl h
            · exact .inr ⟨g, h, h2⟩
          · exact .inr ⟨b3, rfl, by omega⟩
      clear ho3 hg3 hr3 hm hcf
      go_wp2
      go_roundg gk1
      case measure => omega
      case rel => exact ⟨k + 1, some b3, by omega, by go_num, rfl, HN.out⟩
end Go.Proofs.YthcnhjmkcekdaaaGreat
