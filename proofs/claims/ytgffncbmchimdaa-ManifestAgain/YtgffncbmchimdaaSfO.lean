import Derived.Test.YtgffncbmchimdaaSfN
/-! What a loss of power leaves of a file. -/
namespace Go.Proofs.Ytgffncbmchimdaa
open Go.RowKit Go.Maps Plain
set_option linter.unusedVariables false
set_option linter.unusedSimpArgs false

set_option maxRecDepth 1000000 in
theorem truTornOf (x : Value) (p : Value) (w : World) (m : Nat) (hx : x = .agg #[.int .i64 ((m : Nat) : Int)]) : Calls Try.prog 105 #[x, p] w fun e w' => e = .returned (.slice none 0 0) ∧ Below w.heap.size w w' := by
  subst hx
  go_enter Try.func105, Try.ntmps105
  go_wp2
  go_ret
  exact ⟨rfl, (Below.refl _ _).alloc (Nat.le_refl _) _⟩

def lfB (ps : List Int) (f : Fl) : List Nat := fst f.dur (f.chg.take (upV ps f.chg.length))
/-- What of a change is left, if the power goes in its midst; the picks that are left. -/
def tornB (ps : List Int) (c : FC) : List Nat × List Int := Sum.elim (fun b => (b.take (upV ps b.length), ps.tail)) (fun _ => ([], ps)) c
theorem tornB_add (ps : List Int) (b : List Nat) : tornB ps (FC.add b) = (b.take (upV ps b.length), ps.tail) := rfl
theorem tornB_cut (ps : List Int) (n : Nat) : tornB ps (FC.cut n) = ([], ps) := rfl
def lf (ps : List Int) (f : Fl) : List Nat × List Int := (f.chg[upV ps f.chg.length]?).elim (lfB ps f, ps.tail) fun c => (lfB ps f ++ (tornB ps.tail c).1, (tornB ps.tail c).2)
def LvPost (ps : List Int) (f : Fl) (C : Nat) (w : World) (e : Ending) (w' : World) : Prop := ∃ a' n' c' r', e = .returned (.slice a' n' c') ∧ Own w' (.slice a' n' c') (lf ps f).1 r' ∧ (∃ v', ChoAt w' C v' (lf ps f).2) ∧ w.grownBy w' (some C) ∧ (∀ g, r' = some g → w.heap.size ≤ g)

set_option maxHeartbeats 4000000 in
set_option maxRecDepth 1000000 in
theorem leavesOf (w : World) (G : Nat) (f : Fl) (S : Nat → Prop) (C : Nat) (v : Value) (ps : List Int) (h : FileAt w G f S) (hf : f.Ok) (hc : ChoAt w C v ps) (hSC : ¬ S C) :
    Calls Try.prog 43 #[.pointer (some ⟨G, 0, none⟩), .pointer (some ⟨C, 0, none⟩)] w (LvPost ps f C w) := by
  have hcnt := hf.cnt
  have HF0 : Hid (FileAt w G f S) := h
  have HSC : Hid (¬ S C) := hSC
  have HOK : Hid f.Ok := hf
  have HFR : Hid (∀ w', w.grownBy w' (some C) → FileAt w' G f S) := fun w' hg => h.frame hg.size (fun k hk => hg.block k (h.live k hk) (fun e => by simp at e; exact hSC (e ▸ hk)))
  have hcells : ∃ a c, w.cell? ⟨G, 2, none⟩ = some (.slice a f.chg.length c) ∧ f.chg.length ≤ c ∧ c ≤ 2 ^ 63 - 1 := by
    obtain ⟨vs, vd, vc, rs, rd, rc, vals, blk, hm, _⟩ := h
    obtain ⟨_, _, c2, _⟩ := fcells hm.blkG
    obtain ⟨a, cap, e, h1, h2⟩ := hm.chg.row.shape
    unfold maxLen at h1
    rw [hm.chg.len] at e h2
    exact ⟨a, cap, by rw [← e]; exact c2, h2, h1⟩
  obtain ⟨ac, cc, k0, k1, k2⟩ := hcells
  have HUP : Hid (Calls Try.prog 40 #[.pointer (some ⟨C, 0, none⟩), .int .i64 (f.chg.length : Int)] w fun e w' => e = .returned (.int .i64 (upV ps f.chg.length : Int)) ∧ (∃ v', ChoAt w' C v' ps.tail) ∧ w.grownBy w' (some C)) := upToOf w C v ps f.chg.length hc (by omega)
  have hCl := hc.lt
  have hGl := h.self
  have hGC : G ≠ C := fun e => hSC (by
    obtain ⟨_, _, _, _, _, _, _, _, _, h2, _⟩ := h
    exact e ▸ h2 G (.inl rfl))
  have hle := upV_le ps f.chg.length
  clear h hf hc hSC
  go_enter Try.func43, Try.ntmps43
  go_wp2_with fail
  refine HUP.out.mono ?_
  rintro e w1 ⟨rfl, ⟨v1, hv1⟩, hg1⟩
  have HV1 : Hid (ChoAt w1 C v1 ps.tail) := hv1
  have HG1 : Hid (w.grownBy w1 (some C)) := hg1
  have HF1 : Hid (FileAt w1 G f S) := HFR.out w1 hg1
  have HPA : Hid (Calls Try.prog 58 #[.pointer (some ⟨G, 0, none⟩), .int .i64 (upV ps f.chg.length : Int), .func (.func 37) #[] #[]] w1 (PastPost (lfB ps f) w1)) := pastFOf w1 G f S HF1.out HOK.out _ hle
  have hsz1 := hg1.size
  clear hv1 hg1
  go_wp2_with fail
  refine HPA.out.mono ?_
  rintro e w2 ⟨a2, n2, c2, r2, rfl, ho2, hb2, hr2⟩
  have HO2 : Hid (Own w2 (.slice a2 n2 c2) (lfB ps f) r2 ∧ (∀ g, r2 = some g → w1.heap.size ≤ g)) := ⟨ho2, hr2⟩
  have HV2 : Hid (ChoAt w2 C v1 ps.tail) := HV1.out.later hb2
  have HG2 : Hid (w.grownBy w2 (some C)) := grow_trans HG1.out (below_grow hb2 none) (.inr (.inl rfl))
  have HF2 : Hid (FileAt w2 G f S) := HFR.out w2 HG2.out
  have q0 : w2.cell? ⟨G, 2, none⟩ = some (.slice ac f.chg.length cc) := HG2.out.cell k0 (by simp; exact hGC)
  obtain ⟨p1, p2⟩ := own_cap ho2
  have hsz2 := hb2.size
  clear ho2 hb2 hr2
  generalize hn : upV ps f.chg.length = n at *
  by_cases hlt : n < f.chg.length
  · obtain ⟨c, hck⟩ : ∃ c, f.chg[n]? = some c := ⟨_, List.getElem?_eq_getElem hlt⟩
    have HLF : Hid (lf ps f = (lfB ps f ++ (tornB ps.tail c).1, (tornB ps.tail c).2)) := by unfold Hid lf; rw [hn, hck]; rfl
    have hone : ∃ (gc : Nat) (x : Value) (q : Option Nat), ac = some ⟨gc, 0, none⟩ ∧ w2.cell? ⟨gc, n, none⟩ = some x ∧ ChOne w2 c x q ∧ ∀ g, q = some g → S g := by
      obtain ⟨vs, vd, vc, rs, rd, rc, vals, blk, hm, hS, _⟩ := HF2.out
      obtain ⟨_, _, c2', _⟩ := fcells hm.blkG
      rw [q0] at c2'
      simp at c2'
      subst c2'
      obtain ⟨x, hx, hcx⟩ := hm.chg.one n c hck
      obtain ⟨g, _, h2, h3⟩ := hm.chg.row.get hx
      exact ⟨g, x, blk n, h2, h3, hcx, fun g e => hS g (.inr (.inr (.inr (.inr ⟨n, e⟩))))⟩
    obtain ⟨gc, x, q, rfl, hcell, hcx, hqS⟩ := hone
    cases c using FC.elim with
    | add b =>
      obtain ⟨vb, rfl, hov⟩ := ChOne.add.mp hcx
      obtain ⟨ab, nb, cb, rfl⟩ := isSliceO hov
      have HB : Hid (Own w2 (.slice ab nb cb) b q ∧ ∀ g, q = some g → S g) := ⟨hov, hqS⟩
      have hbl : b.length ≤ 4611686018427387904 := by
        have h1 := own_len hov
        obtain ⟨h2, h3⟩ := own_cap hov
        have h4 := HOK.out.len (n + 1)
        rw [fst_take _ _ _ _ hck, FC.on_add, List.length_append] at h4
        omega
      have hbl2 : (lfB ps f).length + b.length ≤ 70368744177664 := by
        have h4 := HOK.out.len (n + 1)
        rw [fst_take _ _ _ _ hck, FC.on_add, List.length_append] at h4
        unfold lfB
        rw [hn]
        exact h4
      have HTO : Hid (Calls Try.prog 103 #[.agg #[.slice ab nb cb], .pointer (some ⟨C, 0, none⟩)] w2 fun e w' => e = .returned (.slice ab (upV ps.tail b.length) cb) ∧ (∃ v', ChoAt w' C v' ps.tail.tail) ∧ w2.grownBy w' (some C)) := addTornOf ab nb cb b w2 C v1 ps.tail hov.bytes HV2.out hbl
      have hm := methAddT (.agg #[.slice ab nb cb]) w2
      clear hcx hov hqS hck
      go_wp2_with fail
      refine HTO.out.mono ?_
      rintro e w3 ⟨rfl, ⟨v3, hv3⟩, hg3⟩
      have hml := upV_le ps.tail b.length
      have HB3 : Hid (BytesAt w3 (.slice ab (upV ps.tail b.length) cb) (b.take (upV ps.tail b.length))) := by
        have hk : Own w3 (.slice ab nb cb) b q := HB.out.1.kept hg3 (by
          cases q with
          | none => exact .inl rfl
          | some g => exact .inr (fun e => by simp at e; exact HSC.out (e ▸ HB.out.2 g rfl)))
        exact hk.bytes.take _ hml
      have HO3 : Hid (Own w3 (.slice a2 n2 c2) (lfB ps f) r2) := HO2.out.1.kept hg3 (by
          cases r2 with
          | none => exact .inl rfl
          | some g => exact .inr (fun e => by simp at e; have := HO2.out.2 g rfl; omega))
      have HV3 : Hid (ChoAt w3 C v3 ps.tail.tail) := hv3
      have HG3 : Hid (w.grownBy w3 (some C)) := grow_trans HG2.out hg3 (.inl rfl)
      have hsz3 := hg3.size
      clear hv3 hg3 hm
      go_wp2_with (at_builtin; refine wpList_append_row _ rfl _ _ 27 27 rfl Try.underlying27 _ _ (lfB ps f) (b.take (upV ps.tail b.length)) r2 rfl rfl ?hOwn ?hByte ?hSrc ?hLen ?_)
      case hOwn => exact HO3.out
      case hByte => exact HB3.out.byte
      case hSrc => exact src_of Try.underlying27 HB3.out
      case hLen => rw [List.length_take]; omega
      intro v4 w4 r4 ho4 hg4 hr4 hn4
      obtain ⟨a4, n4, c4, rfl⟩ := isSliceO ho4
      have HP : Hid (LvPost ps f C w (.returned (.slice a4 n4 c4)) w4) := by
        unfold Hid LvPost
        rw [HLF.out, tornB_add]
        refine ⟨a4, n4, c4, r4, rfl, ho4, ⟨v3, HV3.out.kept hg4 (fun g e => by have := HO2.out.2 g e; omega)⟩, grow_trans HG3.out hg4 ?_, fun g e => ?_⟩
        · cases r2 with
          | none => exact .inr (.inl rfl)
          | some g => exact .inr (.inr ⟨g, rfl, by have := HO2.out.2 g rfl; omega⟩)
        · rcases hr4 with h | h
          · have := HO2.out.2 g (h.symm.trans e); omega
          · rw [h] at e; simp at e; omega
      clear ho4 hg4 hr4 hn4
      go_wp2
      go_ret
      exact HP.out
    | cut m =>
      rw [ChOne.cut] at hcx
      subst hcx
      have hm := methTruT (.agg #[.int .i64 ((m : Nat) : Int)]) w2
      have hbl2 : (lfB ps f).length ≤ 70368744177664 := HOK.out.len _
      clear hqS hck
      go_wp2_with fail
      refine (truTornOf _ _ w2 m rfl).mono ?_
      rintro e w3 ⟨rfl, hb3⟩
      have HBW : Hid (Below w2.heap.size w2 w3) := hb3
      have hsz3 := hb3.size
      clear hb3 hm
      go_wp2_with (at_builtin; refine wpList_append_row _ rfl _ _ 27 27 rfl Try.underlying27 _ _ (lfB ps f) [] r2 rfl rfl ?hOwn ?hByte ?hSrc ?hLen ?_)
      case hOwn => exact HO2.out.1.later HBW.out
      case hByte => simp
      case hSrc => exact src_of Try.underlying27 (BytesAt.nil _)
      case hLen => simp; omega
      intro v4 w4 r4 ho4 hg4 hr4
      obtain ⟨a4, n4, c4, rfl⟩ := isSliceO ho4
      have HP : Hid (LvPost ps f C w (.returned (.slice a4 n4 c4)) w4) := by
        unfold Hid LvPost
        rw [HLF.out, tornB_cut]
        refine ⟨a4, n4, c4, r4, rfl, by simpa using ho4, ⟨v1, (HV2.out.later HBW.out).kept hg4 (fun g e => by have := HO2.out.2 g e; omega)⟩, grow_trans (grow_trans HG2.out (below_grow HBW.out none) (.inr (.inl rfl))) hg4 ?_, fun g e => ?_⟩
        · cases r2 with
          | none => exact .inr (.inl rfl)
          | some g => exact .inr (.inr ⟨g, rfl, by have := HO2.out.2 g rfl; omega⟩)
        · rcases hr4 with h | h
          · have := HO2.out.2 g (h.symm.trans e); omega
          · rw [h] at e; simp at e; omega
      clear ho4 hg4 hr4
      go_wp2
      go_ret
      exact HP.out
  · have HLF : Hid (lf ps f = (lfB ps f, ps.tail)) := by unfold Hid lf; rw [hn, List.getElem?_eq_none (by omega)]; rfl
    have HP : Hid (LvPost ps f C w (.returned (.slice a2 n2 c2)) w2) := by
      unfold Hid LvPost
      rw [HLF.out]
      exact ⟨a2, n2, c2, r2, rfl, HO2.out.1, ⟨v1, HV2.out⟩, HG2.out, fun g e => by have := HO2.out.2 g e; omega⟩
    have hge : n = f.chg.length := by omega
    clear hlt
    go_wp2
    go_ret
    exact HP.out
end Go.Proofs.Ytgffncbmchimdaa
