import Derived.Test.YtgffncbmchimdaaSf8
/-! The disk: an operation is counted, a file is synced. -/
namespace Go.Proofs.Ytgffncbmchimdaa
open Go.RowKit Go.Maps Plain
set_option linter.unusedVariables false
set_option linter.unusedSimpArgs false

def upd {α : Type} (f : Nat → α) (G : Nat) (v : α) : Nat → α := fun x => if x = G then v else f x
theorem upd_same {α : Type} (f : Nat → α) (G : Nat) (v : α) : upd f G v G = v := by simp [upd]
theorem upd_other {α : Type} (f : Nat → α) (G x : Nat) (v : α) (h : x ≠ G) : upd f G v x = f x := by simp [upd, h]
def Dk.spent (k : Dk) : Dk := { k with ops := (spd k.ops k.fused k.left k.dead).2.1, left := (spd k.ops k.fused k.left k.dead).2.2.1, dead := (spd k.ops k.fused k.left k.dead).2.2.2 }
def Dk.can (k : Dk) : Bool := (spd k.ops k.fused k.left k.dead).1
def Dk.setFile (k : Dk) (G : Nat) (f : Fl) : Dk := { k with file := upd k.file G f }
theorem DiskM.spent {w w' : World} {d : Nat} {k : Dk} {ms md : Option Nat} {vc : Value} {rc : Option Nat} {Sf : Nat → Nat → Prop} (h : DiskM w d k ms md vc rc Sf)
    (hb : w'.heap[d]? = some (.cells #[.map ms, .map md, vc, .int .i64 k.used, .int .i64 k.quota, .int .i64 k.spent.ops, .bool k.fused, .int .i64 k.spent.left, .bool k.spent.dead] 69)) (hg : w.grownBy w' (some d)) : DiskM w' d k.spent ms md vc rc Sf := by
  have keep : ∀ x, x < w.heap.size → x ≠ d → w'.heap[x]? = w.heap[x]? := fun x hx h1 => hg.block x hx (by simpa using h1)
  refine ⟨hb, h.seen.of_block (fun b e => keep b ?_ (h.sepS b e).1), h.dur.of_block (fun b e => keep b ?_ (h.sepD b e).1), h.chg.of_block hg.size (fun b e => keep b (h.chg.rlt b e) (h.sepC b e)), fun G hG => ?_, h.sepS, h.sepD, h.sepC, h.sepF, h.sepFF⟩
  · have := h.seen; rw [e] at this; exact this.lt
  · have := h.dur; rw [e] at this; exact this.lt
  · have hF : FileAt w G (k.file G) (Sf G) := h.files G hG
    refine hF.frame hg.size (fun x hx => keep x ?_ (h.sepF G hG x hx).1)
    obtain ⟨_, _, _, _, _, _, _, _, _, _, h3⟩ := hF
    exact h3 x hx
theorem FileAt.live {w : World} {G : Nat} {f : Fl} {S : Nat → Prop} (h : FileAt w G f S) : ∀ x, S x → x < w.heap.size := by
  obtain ⟨_, _, _, _, _, _, _, _, _, _, h3⟩ := h
  exact h3
theorem DiskM.setFile {w w' : World} {d : Nat} {k : Dk} {ms md : Option Nat} {vc : Value} {rc : Option Nat} {Sf : Nat → Nat → Prop} {G : Nat} {f : Fl} {S' : Nat → Prop} (h : DiskM w d k ms md vc rc Sf) (hG : k.live G) (hf : FileAt w' G f S') (hc : Chg (Sf G) w w') (hS : ∀ x, S' x → Sf G x ∨ w.heap.size ≤ x) :
    DiskM w' d (k.setFile G f) ms md vc rc (upd Sf G S') := by
  have hd : d < w.heap.size := (Array.getElem?_eq_some_iff.mp h.cells).1
  have msl : ∀ b, ms = some b → b < w.heap.size := fun b e => by have := h.seen; rw [e] at this; exact this.lt
  have mdl : ∀ b, md = some b → b < w.heap.size := fun b e => by have := h.dur; rw [e] at this; exact this.lt
  have rcl := h.chg.rlt
  have keep : ∀ x, x < w.heap.size → ¬ Sf G x → w'.heap[x]? = w.heap[x]? := fun x hx h1 => hc.block x hx h1
  refine ⟨(keep d hd (fun e => (h.sepF G hG d e).1 rfl)).trans h.cells, h.seen.of_block (fun b e => keep b (msl b e) (fun e2 => (h.sepF G hG b e2).2.1 e)), h.dur.of_block (fun b e => keep b (mdl b e) (fun e2 => (h.sepF G hG b e2).2.2.1 e)), h.chg.of_block hc.size (fun b e => keep b (rcl b e) (fun e2 => (h.sepF G hG b e2).2.2.2 e)), ?_, h.sepS, h.sepD, h.sepC, ?_, ?_⟩
  · intro G' hG'
    by_cases e : G' = G
    · subst e
      show FileAt w' G' (upd k.file G' f G') (upd Sf G' S' G')
      rw [upd_same, upd_same]
      exact hf
    · show FileAt w' G' (upd k.file G f G') (upd Sf G S' G')
      rw [upd_other _ _ _ _ e, upd_other _ _ _ _ e]
      exact (h.files G' hG').frame hc.size (fun x hx => keep x ((h.files G' hG').live x hx) (h.sepFF G' G hG' hG e x hx))
  · intro G' hG' x hx
    by_cases e : G' = G
    · subst e
      rw [upd_same] at hx
      rcases hS x hx with h1 | h1
      · exact h.sepF G' hG x h1
      · exact ⟨by omega, fun e => by have := msl x e; omega, fun e => by have := mdl x e; omega, fun e => by have := rcl x e; omega⟩
    · rw [upd_other _ _ _ _ e] at hx
      exact h.sepF G' hG' x hx
  · intro G1 G2 h1 h2 hne x hx hx2
    by_cases e1 : G1 = G
    · subst e1
      rw [upd_same] at hx
      rw [upd_other _ _ _ _ (Ne.symm hne)] at hx2
      rcases hS x hx with h3 | h3
      · exact h.sepFF G1 G2 h1 h2 hne x h3 hx2
      · have := (h.files G2 h2).live x hx2; omega
    · rw [upd_other _ _ _ _ e1] at hx
      by_cases e2 : G2 = G
      · subst e2
        rw [upd_same] at hx2
        rcases hS x hx2 with h3 | h3
        · exact h.sepFF G1 G2 h1 h2 hne x hx h3
        · have := (h.files G1 h1).live x hx; omega
      · rw [upd_other _ _ _ _ e2] at hx2
        exact h.sepFF G1 G2 h1 h2 hne x hx hx2

/-- What is true of a disk behind n operations. -/
structure Dk.Ok (k : Dk) (n : Nat) : Prop where
  refs : ∀ p ∈ k.L, k.live p.2
  fok : ∀ G, k.live G → (k.file G).Ok ∧ (k.file G).chg.length ≤ n
  ops : 0 ≤ k.ops ∧ k.ops ≤ n
  fuse : k.fused = true → 0 ≤ k.left ∧ k.left ≤ 9223372036854775807
theorem look_mem {L : Dir} {s : Nm} {g : Nat} (h : look L s = some g) : (s, g) ∈ L := by
  unfold look at h
  cases e : L.find? (fun p => p.1 == s) with
  | none => rw [e] at h; simp at h
  | some p =>
    rw [e] at h
    simp at h
    have h1 := List.find?_some e
    have h2 := List.mem_of_find?_eq_some e
    simp at h1
    subst h1 h
    exact h2
theorem DiskM.at0 {w : World} {d : Nat} {k : Dk} {ms md : Option Nat} {vc : Value} {rc : Option Nat} {Sf : Nat → Nat → Prop} (h : DiskM w d k ms md vc rc Sf) : w.cell? ⟨d, 0, none⟩ = some (.map ms) ∧ w.cell? ⟨d, 8, none⟩ = some (.bool k.dead) := by
  obtain ⟨⟨c0, _, _, _, _, _, _, _, c8⟩, _⟩ := dcells h.cells
  exact ⟨c0, c8⟩
theorem DiskM.later {w w' : World} {d : Nat} {k : Dk} {ms md : Option Nat} {vc : Value} {rc : Option Nat} {Sf : Nat → Nat → Prop} (h : DiskM w d k ms md vc rc Sf) (hb : Below w.heap.size w w') : DiskM w' d k ms md vc rc Sf :=
  h.frame hb.size (fun x hx => hb.block x (by
    rcases hx with rfl | hx | hx | hx
    · exact (Array.getElem?_eq_some_iff.mp h.cells).1
    · have := h.seen; rw [hx] at this; exact this.lt
    · have := h.dur; rw [hx] at this; exact this.lt
    · exact h.chg.rlt x hx)) (fun G x hG hx => hb.block x ((h.files G hG).live x hx))
/-- What Sync does. -/
def syncK (k : Dk) (s : ByteArray) : Int × Dk := if (fnd k.dead k.L s).2 = 0 then (match look k.L s.data.toList with
    | some G => if k.can then (0, k.spent.setFile G ⟨(k.file G).seen, (k.file G).seen, []⟩) else (34, k.spent)
    | none => (31, k)) else ((fnd k.dead k.L s).2, k)
theorem fnd_ok {dead : Bool} {L : Dir} {s : ByteArray} (h : (fnd dead L s).2 = 0) : ∃ g, look L s.data.toList = some g ∧ fnd dead L s = (.pointer (some ⟨g, 0, none⟩), 0) := by
  unfold fnd at h ⊢
  cases dead with
  | true => simp at h
  | false =>
    cases hn : nmL s.data.toList with
    | false => rw [hn] at h; simp at h
    | true =>
      rw [hn] at h
      cases hl : look L s.data.toList with
      | none => rw [hl] at h; simp at h
      | some g => exact ⟨g, rfl, rfl⟩
theorem fnd_bad {dead : Bool} {L : Dir} {s : ByteArray} (h : (fnd dead L s).2 ≠ 0) : (fnd dead L s).1 = .pointer none := by
  unfold fnd at h ⊢
  cases dead with
  | true => rfl
  | false =>
    cases hn : nmL s.data.toList with
    | false => rfl
    | true =>
      rw [hn] at h
      cases hl : look L s.data.toList with
      | none => rfl
      | some g => rw [hl] at h; simp at h

def OpPost (d : Nat) (r : Int × Dk) (S : Nat → Prop) (w : World) : Ending → World → Prop := fun e w' => e = .returned (.int .i64 r.1) ∧ DiskAt w' d r.2 (Ext S w w') ∧ Chg S w w'

set_option maxHeartbeats 2000000 in
set_option maxRecDepth 100000 in
theorem syncOf (d : Nat) (k : Dk) (n : Nat) (S : Nat → Prop) (s : ByteArray) (hs : s.size ≤ maxLen) (w : World) (h : DiskAt w d k S) (hk : k.Ok n) (hn : n ≤ 4398046511103) : Calls Try.prog 8 #[.pointer (some ⟨d, 0, none⟩), .string s] w (OpPost d (syncK k s) S w) := by
  obtain ⟨ms, md, vc, rc, Sf, hm, hS1, hS2, hS3⟩ := h
  have HM : Hid (DiskM w d k ms md vc rc Sf) := hm
  have HS1 : Hid (∀ x, footD d ms md rc x → S x) := hS1
  have HS2 : Hid (∀ G x, k.live G → Sf G x → S x) := hS2
  have HS3 : Hid (∀ x, S x → x < w.heap.size) := hS3
  have HK : Hid (k.Ok n) := hk
  have HB1 : Hid (Below w.heap.size w (w.alloc (.cells #[.string s] 9))) := (Below.refl _ _).alloc (Nat.le_refl _) _
  have HFD : Hid (Calls Try.prog 31 #[.pointer (some ⟨d, 0, none⟩), .string s] w fun e w' => e = .returned (.tuple #[(fnd k.dead k.L s).1, .int .i64 (fnd k.dead k.L s).2]) ∧ w' = w.alloc (.cells #[.string s] 9)) := findOf d ms k.L k.dead s hs w hm.at0.1 hm.at0.2 hm.seen
  clear hm hS1 hS2 hS3
  by_cases h0 : (fnd k.dead k.L s).2 = 0
  · obtain ⟨G, hl, hfe⟩ := fnd_ok h0
    rw [hfe] at HFD
    have hG : k.live G := hk.refs _ (look_mem hl)
    have HM1 : Hid (DiskM (w.alloc (.cells #[.string s] 9)) d k ms md vc rc Sf) := HM.out.later HB1.out
    have HSP := spendOf d _ _ _ _ _ k.ops k.left k.fused k.dead (w.alloc (.cells #[.string s] 9)) HM1.out.cells hk.ops.1 (by have := hk.ops.2; omega) hk.fuse
    have HSY : Hid (syncK k s = if k.can then (0, k.spent.setFile G ⟨(k.file G).seen, (k.file G).seen, []⟩) else (34, k.spent)) := by unfold Hid syncK; rw [if_pos h0, hl]
    have HLG : Hid (k.live G) := hG
    have HFO : Hid (k.file G).Ok := (hk.fok G hG).1
    clear hk hl hfe h0 hG
    obtain ⟨W1, hW1⟩ : ∃ W1, w.alloc (.cells #[.string s] 9) = W1 := ⟨_, rfl⟩
    rw [hW1] at HFD HM1 HSP HB1
    clear hW1
    cases hc : k.can with
    | false =>
      have hcs : (spd k.ops k.fused k.left k.dead).1 = false := hc
      rw [hcs] at HSP
      rw [HSY.out, hc, if_neg (by simp)]
      clear hc hcs HSY
      go_enter Try.func8, Try.ntmps8
      go_wp2_with fail
      refine HFD.out.mono ?_
      rintro e w1 ⟨rfl, rfl⟩
      go_wp2_with fail
      refine HSP.mono ?_
      rintro e w2 ⟨rfl, hb2, hg2⟩
      have HM2 : Hid (DiskM w2 d k.spent ms md vc rc Sf) := HM1.out.spent hb2 hg2
      have HC2 : Hid (Chg S w w2) := (Chg.ofBelow HB1.out).grown hg2 (fun g e => by simp at e; subst e; exact .inl (HS1.out _ (.inl rfl)))
      clear hb2 hg2 HSP
      go_wp2
      go_ret
      exact ⟨rfl, ⟨ms, md, vc, rc, Sf, HM2.out, fun x hx => .inl (HS1.out x hx), fun G x hG hx => .inl (HS2.out G x hG hx), fun x hx => by
        rcases hx with hx | hx
        · have := HS3.out x hx; have := HC2.out.size; omega
        · exact hx.2⟩, HC2.out⟩
    | true =>
      have hcs : (spd k.ops k.fused k.left k.dead).1 = true := hc
      rw [hcs] at HSP
      rw [HSY.out, hc, if_pos rfl]
      clear hc hcs HSY
      go_enter Try.func8, Try.ntmps8
      go_wp2_with fail
      refine HFD.out.mono ?_
      rintro e w1 ⟨rfl, rfl⟩
      go_wp2_with fail
      refine HSP.mono ?_
      rintro e w2 ⟨rfl, hb2, hg2⟩
      have HM2 : Hid (DiskM w2 d k.spent ms md vc rc Sf) := HM1.out.spent hb2 hg2
      have HC2 : Hid (Chg S w w2) := (Chg.ofBelow HB1.out).grown hg2 (fun g e => by simp at e; subst e; exact .inl (HS1.out _ (.inl rfl)))
      clear hb2 hg2 HSP
      go_wp2_with fail
      refine (settleFile w2 G _ _ (HM2.out.files G HLG.out) HFO.out).mono ?_
      rintro e w3 ⟨rfl, hf3, hc3⟩
      have HC3 : Hid (Chg S w w3) := HC2.out.trans (hc3.mono (fun x hx => HS2.out G x HLG.out hx))
      have HM3 : Hid (DiskM w3 d (k.spent.setFile G ⟨(k.file G).seen, (k.file G).seen, []⟩) ms md vc rc (upd Sf G (Ext (Sf G) w2 w3))) := HM2.out.setFile HLG.out hf3 hc3 (fun x hx => by
        rcases hx with hx | hx
        · exact .inl hx
        · exact .inr hx.1)
      have HS23 : Hid (w.heap.size ≤ w2.heap.size ∧ w2.heap.size ≤ w3.heap.size) := ⟨HC2.out.size, hc3.size⟩
      clear hf3 hc3
      go_wp2
      go_ret
      refine ⟨rfl, ⟨ms, md, vc, rc, _, HM3.out, fun x hx => .inl (HS1.out x hx), fun G' x hG' hx => ?_, fun x hx => ?_⟩, HC3.out⟩
      · by_cases e : G' = G
        · subst e
          rw [upd_same] at hx
          rcases hx with hx | hx
          · exact .inl (HS2.out G' x HLG.out hx)
          · exact .inr ⟨by have := HS23.out; omega, hx.2⟩
        · rw [upd_other _ _ _ _ e] at hx
          exact .inl (HS2.out G' x hG' hx)
      · rcases hx with hx | hx
        · have := HS3.out x hx; have := HC3.out.size; omega
        · exact hx.2
  · have HSY : Hid (syncK k s = ((fnd k.dead k.L s).2, k)) := by unfold Hid syncK; rw [if_neg h0]
    rw [HSY.out]
    have hp := fnd_bad h0
    rw [hp] at HFD
    obtain ⟨z, hz⟩ : ∃ z, (fnd k.dead k.L s).2 = z := ⟨_, rfl⟩
    rw [hz] at HFD h0 ⊢
    have hne : (z != 0) = true := by simpa using h0
    have hne2 : (z == 0) = false := beq_eq_false_iff_ne.mpr h0
    clear hz hp h0 hk
    go_enter Try.func8, Try.ntmps8
    go_wp2_with fail
    refine HFD.out.mono ?_
    rintro e w1 ⟨rfl, rfl⟩
    go_wp2
    go_ret
    exact ⟨rfl, ⟨ms, md, vc, rc, Sf, HM.out.later HB1.out, fun x hx => .inl (HS1.out x hx), fun G x hG hx => .inl (HS2.out G x hG hx), fun x hx => by
      rcases hx with hx | hx
      · have := HS3.out x hx; have := HB1.out.size; omega
      · exact hx.2⟩, Chg.ofBelow HB1.out⟩
end Go.Proofs.Ytgffncbmchimdaa
