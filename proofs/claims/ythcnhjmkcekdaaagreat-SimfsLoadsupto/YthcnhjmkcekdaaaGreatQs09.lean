import Derived.Test.YthcnhjmkcekdaaaGreatQs08
import Derived.Test.YthcnhjmkcekdaaaGreatQs00
namespace Go.Proofs.YthcnhjmkcekdaaaGreat
open Go.RowKit Go.Maps Plain
set_option linter.unusedVariables false
set_option linter.unusedSimpArgs false
theorem PicksAt.of_cells {w w' : World} {C : Nat} {v : Value} {ps : List Int} (h : PicksAt w v ps) (ho : PicksOff C v) (hc : ∀ b o u, b < C → w.cell? ⟨b, o, none⟩ = some u → w'.cell? ⟨b, o, none⟩ = some u) : PicksAt w' v ps := by
  obtain ⟨a, cap, rfl, h1, h2, h3, h4⟩ := h
  refine ⟨a, cap, rfl, h1, h2, h3, fun hne => ?_⟩
  obtain ⟨b, off, rfl, h5⟩ := h4 hne
  exact ⟨b, off, rfl, fun j x hj => hc _ _ _ (ho b off _ _ rfl (List.length_pos_iff.mpr hne)) (h5 j x hj)⟩
theorem ChoAt.lt {w : World} {C : Nat} {v : Value} {ps : List Int} (h : ChoAt w C v ps) : C < w.heap.size := (Array.getElem?_eq_some_iff.mp h.blk).1
theorem ChoAt.kept {w w' : World} {C : Nat} {v : Value} {ps : List Int} {r : Option Nat} (h : ChoAt w C v ps) (hg : w.grownBy w' r) (hr : ∀ g, r = some g → C < g) : ChoAt w' C v ps :=
  ⟨(hg.block C h.lt (fun e => by have := hr C e.symm; omega)).trans h.blk, h.row.of_cells h.off (fun b o u hb hu => hg.cell hu (fun e => by have := hr b e.symm; omega)), h.off⟩
theorem ChoAt.later {w w' : World} {C : Nat} {v : Value} {ps : List Int} (h : ChoAt w C v ps) (hb : Below w.heap.size w w') : ChoAt w' C v ps := h.kept (below_grow hb none) (by simp)
set_option maxHeartbeats 2000000 in
set_option maxRecDepth 1000000 in
theorem addTornOf (ab : Option Addr) (nb cb : Nat) (b : List Nat) (w : World) (C : Nat) (v : Value) (ps : List Int) (hb : BytesAt w (.slice ab nb cb) b) (hc : ChoAt w C v ps) (hl : b.length ≤ 4611686018427387904) :
    Calls Tryz.prog 131 #[.agg #[.slice ab nb cb], .pointer (some ⟨C, 0, none⟩)] w fun e w' => e = .returned (.slice ab (upV ps b.length) cb) ∧ (∃ v', ChoAt w' C v' ps.tail) ∧ w.grownBy w' (some C) := by
  obtain ⟨a, cap, e, h1, h2, h3, h4⟩ := hb
  injection e with e1 e2 e3
  subst e1 e2 e3
  unfold maxLen at h2
  have HBW : Hid (Below w.heap.size w (w.alloc (.cells #[.slice ab b.length cb] 134)).drew) := ((Below.refl _ _).alloc (Nat.le_refl _) _).drew
  have HUP : Hid (Calls Tryz.prog 67 #[.pointer (some ⟨C, 0, none⟩), .int .i64 (b.length : Int)] (w.alloc (.cells #[.slice ab b.length cb] 134)).drew fun e w' => e = .returned (.int .i64 (upV ps b.length : Int)) ∧ (∃ v', ChoAt w' C v' ps.tail) ∧ (w.alloc (.cells #[.slice ab b.length cb] 134)).drew.grownBy w' (some C)) := upToOf _ C v ps b.length (hc.later HBW.out) hl
  have hle := upV_le ps b.length
  have hCl := hc.lt
  have k0 : (w.alloc (.cells #[.slice ab b.length cb] 134)).cell? ⟨w.heap.size, 0, none⟩ = some (.slice ab b.length cb) := by rw [World.cell?_alloc_at _ _ _ _ rfl]; rfl
  clear hc h3 h4
  generalize b.length = N at *
  generalize upV ps N = M at *
  obtain ⟨W, hW⟩ : ∃ W, w.alloc (.cells #[.slice ab N cb] 134) = W := ⟨_, rfl⟩
  have HW : Hid (w.alloc (.cells #[.slice ab N cb] 134) = W) := hW
  rw [hW] at HBW HUP k0
  clear hW
  go_enter Tryz.func131, Tryz.ntmps131
  go_wp2
  rw [HW.out]
  go_region_with (
    go_at_call 67
    refine HUP.out.mono ?_
    rintro e w3 ⟨rfl, hv3, hg3⟩
    have k3 : w3.cell? ⟨w.heap.size, 0, none⟩ = some (.slice ab N cb) := hg3.cell k0 (by simp; omega)
    have HP : Hid ((∃ v', ChoAt w3 C v' ps.tail) ∧ w.grownBy w3 (some C)) := ⟨hv3, grow_trans (below_grow HBW.out (some C)) hg3 (.inl rfl)⟩
    clear hv3 hg3)
  all_goals
    go_wp2
    go_ret
    exact ⟨rfl, HP.out⟩
end Go.Proofs.YthcnhjmkcekdaaaGreat

namespace Go.Proofs.YthcnhjmkcekdaaaGreat
open Go.RowKit Go.Maps Plain
set_option linter.unusedVariables false
set_option linter.unusedSimpArgs false
set_option maxRecDepth 1000000 in
theorem truTornOf (x : Value) (p : Value) (w : World) (m : Nat) (hx : x = .agg #[.int .i64 ((m : Nat) : Int)]) : Calls Tryz.prog 133 #[x, p] w fun e w' => e = .returned (.slice none 0 0) ∧ Below w.heap.size w w' := by
  subst hx
  go_enter Tryz.func133, Tryz.ntmps133
  go_wp2
  go_ret
  exact ⟨rfl, (Below.refl _ _).alloc (Nat.le_refl _) _⟩
def lfB (ps : List Int) (f : Fl) : List Nat := fst f.dur (f.chg.take (upV ps f.chg.length))
/-- What of a change is left, if the power goes in its midst; the picks that are left. -/
def tornB (ps : List Int) (c : FC) : List Nat × List Int := Sum.elim (fun b => (b.take (upV ps b.length), ps.tail)) (fun _ => ([], ps)) c
theorem tornB_add (ps : List Int) (b : List Nat) : tornB ps (FC.add b) = (b.take (upV ps b.length), ps.tail) := rfl
theorem tornB_cut (ps : List Int) (n : Nat) : tornB ps (FC.cut n) = ([], ps) := rfl
def lf (ps : List Int) (f : Fl) : List Nat × List Int := (f.chg[upV ps f.chg.length]?).elim (lfB ps f, ps.tail) fun c => (lfB ps f ++ (tornB ps.tail c).1, (tornB ps.tail c).2)
def LvPost (ps : List Int) (f : Fl) (C : Nat) (w : World) (e : Ending) (w' : World) : Prop := ∃ a' n' c' r', e = .returned (.slice a' n' c') ∧ Own w' (.slice a' n' c') (lf ps f).1 r' ∧ (∃ v', ChoAt w' C v' (lf ps f).2) ∧ w.grownBy w' (some C) ∧ (∀ g, r' = some g → w.heap.size ≤ g)
set_option maxHeartbeats 4000000 in
set_option maxRecDepth 1000000 in
theorem leavesOf (w : World) (G : Nat) (f : Fl) (S : Nat → Prop) (C : Nat) (v : Value) (ps : List Int) (h : FileAt w G f S) (hf : f.Ok) (hc : ChoAt w C v ps) (hSC : ¬ S C) :
    Calls Tryz.prog 71 #[.pointer (some ⟨G, 0, none⟩), .pointer (some ⟨C, 0, none⟩)] w (LvPost ps f C w) := by
  have hcnt := hf.cnt
  have HF0 : Hid (FileAt w G f S) := h
  have HSC : Hid (¬ S C) := hSC
  have HOK : Hid f.Ok := hf
  have HFR : Hid (∀ w', w.grownBy w' (some C) → FileAt w' G f S) := fun w' hg => h.frame hg.size (fun k hk => hg.block k (h.live k hk) (fun e => by simp at e; exact hSC (e ▸ hk)))
  have hcells : ∃ a c, w.cell? ⟨G, 2, none⟩ = some (.slice a f.chg.length c) ∧ f.chg.length ≤ c ∧ c ≤ 2 ^ 63 - 1 := by
    obtain ⟨vs, vd, vc, rs, rd, rc, vals, blk, hm, _⟩ := h
    obtain ⟨_, _, c2, _⟩ := fcells hm.blkG
    obtain ⟨a, cap, e, h1, h2⟩ := hm.chg.row.shape
    unfold maxLen at h1
    rw [hm.chg.len] at e h2
    exact ⟨a, cap, by rw [← e]; exact c2, h2, h1⟩
  obtain ⟨ac, cc, k0, k1, k2⟩ := hcells
  have HUP : Hid (Calls Tryz.prog 67 #[.pointer (some ⟨C, 0, none⟩), .int .i64 (f.chg.length : Int)] w fun e w' => e = .returned (.int .i64 (upV ps f.chg.length : Int)) ∧ (∃ v', ChoAt w' C v' ps.tail) ∧ w.grownBy w' (some C)) := upToOf w C v ps f.chg.length hc (by omega)
  have hCl := hc.lt
  have hGl := h.self
  have hGC : G ≠ C := fun e => hSC (by
    obtain ⟨_, _, _, _, _, _, _, _, _, h2, _⟩ := h
    exact e ▸ h2 G (.inl rfl))
  have hle := upV_le ps f.chg.length
  clear h hf hc hSC
  go_enter Tryz.func71, Tryz.ntmps71
  go_wp2_with fail
  refine HUP.out.mono ?_
  rintro e w1 ⟨rfl, ⟨v1, hv1⟩, hg1⟩
  have HV1 : Hid (ChoAt w1 C v1 ps.tail) := hv1
  have HG1 : Hid (w.grownBy w1 (some C)) := hg1
  have HF1 : Hid (FileAt w1 G f S) := HFR.out w1 hg1
  have HPA : Hid (Calls Tryz.prog 85 #[.pointer (some ⟨G, 0, none⟩), .int .i64 (upV ps f.chg.length : Int), .func (.func 74) #[] #[]] w1 (PastPost (lfB ps f) w1)) := pastFOf w1 G f S HF1.out HOK.out _ hle
  have hsz1 := hg1.size
  clear hv1 hg1
  go_wp2_with fail
  refine HPA.out.mono ?_
  rintro e w2 ⟨a2, n2, c2, r2, rfl, ho2, hb2, hr2⟩
  have HO2 : Hid (Own w2 (.slice a2 n2 c2) (lfB ps f) r2 ∧ (∀ g, r2 = some g → w1.heap.size ≤ g)) := ⟨ho2, hr2⟩
  have HV2 : Hid (ChoAt w2 C v1 ps.tail) := HV1.out.later hb2
  have HG2 : Hid (w.grownBy w2 (some C)) := grow_trans HG1.out (below_grow hb2 none) (.inr (.inl rfl))
  have HF2 : Hid (FileAt w2 G f S) := HFR.out w2 HG2.out
  have q0 : w2.cell? ⟨G, 2, none⟩ = some (.slice ac f.chg.length cc) := HG2.out.cell k0 (by simp; exact hGC)
  obtain ⟨p1, p2⟩ := own_cap ho2
  have hsz2 := hb2.size
  clear ho2 hb2 hr2
  generalize hn : upV ps f.chg.length = n at *
  by_cases hlt : n < f.chg.length
  · obtain ⟨c, hck⟩ : ∃ c, f.chg[n]? = some c := ⟨_, List.getElem?_eq_getElem hlt⟩
    have HLF : Hid (lf ps f = (lfB ps f ++ (tornB ps.tail c).1, (tornB ps.tail c).2)) := by unfold Hid lf; rw [hn, hck]; rfl
    have hone : ∃ (gc : Nat) (x : Value) (q : Option Nat), ac = some ⟨gc, 0, none⟩ ∧ w2.cell? ⟨gc, n, none⟩ = some x ∧ ChOne w2 c x q ∧ ∀ g, q = some g → S g := by
      obtain ⟨vs, vd, vc, rs, rd, rc, vals, blk, hm, hS, _⟩ := HF2.out
      obtain ⟨_, _, c2', _⟩ := fcells hm.blkG
      rw [q0] at c2'
      simp at c2'
      subst c2'
      obtain ⟨x, hx, hcx⟩ := hm.chg.one n c hck
      obtain ⟨g, _, h2, h3⟩ := hm.chg.row.get hx
      exact ⟨g, x, blk n, h2, h3, hcx, fun g e => hS g (.inr (.inr (.inr (.inr ⟨n, e⟩))))⟩
    obtain ⟨gc, x, q, rfl, hcell, hcx, hqS⟩ := hone
    cases c using FC.elim with
    | add b =>
      obtain ⟨vb, rfl, hov⟩ := ChOne.add.mp hcx
      obtain ⟨ab, nb, cb, rfl⟩ := isSliceO hov
      have HB : Hid (Own w2 (.slice ab nb cb) b q ∧ ∀ g, q = some g → S g) := ⟨hov, hqS⟩
      have hbl : b.length ≤ 4611686018427387904 := by
        have h1 := own_len hov
        obtain ⟨h2, h3⟩ := own_cap hov
        have h4 := HOK.out.len (n + 1)
        rw [fst_take _ _ _ _ hck, FC.on_add, List.length_append] at h4
        omega
      have hbl2 : (lfB ps f).length + b.length ≤ 70368744177664 := by
        have h4 := HOK.out.len (n + 1)
        rw [fst_take _ _ _ _ hck, FC.on_add, List.length_append] at h4
        unfold lfB
        rw [hn]
        exact h4
      have HTO : Hid (Calls Tryz.prog 131 #[.agg #[.slice ab nb cb], .pointer (some ⟨C, 0, none⟩)] w2 fun e w' => e = .returned (.slice ab (upV ps.tail b.length) cb) ∧ (∃ v', ChoAt w' C v' ps.tail.tail) ∧ w2.grownBy w' (some C)) := addTornOf ab nb cb b w2 C v1 ps.tail hov.bytes HV2.out hbl
      have hm := methAddT (.agg #[.slice ab nb cb]) w2
      clear hcx hov hqS hck
      go_wp2_with fail
      refine HTO.out.mono ?_
      rintro e w3 ⟨rfl, ⟨v3, hv3⟩, hg3⟩
      have hml := upV_le ps.tail b.length
      have HB3 : Hid (BytesAt w3 (.slice ab (upV ps.tail b.length) cb) (b.take (upV ps.tail b.length))) := by
        have hk : Own w3 (.slice ab nb cb) b q := HB.out.1.kept hg3 (by
          cases q with
          | none => exact .inl rfl
          | some g => exact .inr (fun e => by simp at e; exact HSC.out (e ▸ HB.out.2 g rfl)))
        exact hk.bytes.take _ hml
      have HO3 : Hid (Own w3 (.slice a2 n2 c2) (lfB ps f) r2) := HO2.out.1.kept hg3 (by
          cases r2 with
          | none => exact .inl rfl
          | some g => exact .inr (fun e => by simp at e; have := HO2.out.2 g rfl; omega))
      have HV3 : Hid (ChoAt w3 C v3 ps.tail.tail) := hv3
      have HG3 : Hid (w.grownBy w3 (some C)) := grow_trans HG2.out hg3 (.inl rfl)
      have hsz3 := hg3.size
      clear hv3 hg3 hm
      go_wp2_with (at_builtin; refine wpList_append_row _ rfl _ _ 34 34 rfl Tryz.underlying34 _ _ (lfB ps f) (b.take (upV ps.tail b.length)) r2 rfl rfl ?hOwn ?hByte ?hSrc ?hLen ?_)
      case hOwn => exact HO3.out
      case hByte => exact HB3.out.byte
      case hSrc => exact src_of Tryz.underlying34 HB3.out
      case hLen => rw [List.length_take]; omega
      intro v4 w4 r4 ho4 hg4 hr4 hn4
      obtain ⟨a4, n4, c4, rfl⟩ := isSliceO ho4
      have HP : Hid (LvPost ps f C w (.returned (.slice a4 n4 c4)) w4) := by
        unfold Hid LvPost
        rw [HLF.out, tornB_add]
        refine ⟨a4, n4, c4, r4, rfl, ho4, ⟨v3, HV3.out.kept hg4 (fun g e => by have := HO2.out.2 g e; omega)⟩, grow_trans HG3.out hg4 ?_, fun g e => ?_⟩
        · cases r2 with
          | none => exact .inr (.inl rfl)
          | some g => exact .inr (.inr ⟨g, rfl, by have := HO2.out.2 g rfl; omega⟩)
        · rcases hr4 with h | h
          · have := HO2.out.2 g (h.symm.trans e); omega
          · rw [h] at e; simp at e; omega
      clear ho4 hg4 hr4 hn4
      go_wp2
      go_ret
      exact HP.out
    | cut m =>
      rw [ChOne.cut] at hcx
      subst hcx
      have hm := methTruT (.agg #[.int .i64 ((m : Nat) : Int)]) w2
      have hbl2 : (lfB ps f).length ≤ 70368744177664 := HOK.out.len _
      clear hqS hck
      go_wp2_with fail
      refine (truTornOf _ _ w2 m rfl).mono ?_
      rintro e w3 ⟨rfl, hb3⟩
      have HBW : Hid (Below w2.heap.size w2 w3) := hb3
      have hsz3 := hb3.size
      clear hb3 hm
      go_wp2_with (at_builtin; refine wpList_append_row _ rfl _ _ 34 34 rfl Tryz.underlying34 _ _ (lfB ps f) [] r2 rfl rfl ?hOwn ?hByte ?hSrc ?hLen ?_)
      case hOwn => exact HO2.out.1.later HBW.out
      case hByte => simp
      case hSrc => exact src_of Tryz.underlying34 (BytesAt.nil _)
      case hLen => simp; omega
      intro v4 w4 r4 ho4 hg4 hr4
      obtain ⟨a4, n4, c4, rfl⟩ := isSliceO ho4
      have HP : Hid (LvPost ps f C w (.returned (.slice a4 n4 c4)) w4) := by
        unfold Hid LvPost
        rw [HLF.out, tornB_cut]
        refine ⟨a4, n4, c4, r4, rfl, by simpa using ho4, ⟨v1, (HV2.out.later HBW.out).kept hg4 (fun g e => by have := HO2.out.2 g e; omega)⟩, grow_trans (grow_trans HG2.out (below_grow HBW.out none) (.inr (.inl rfl))) hg4 ?_, fun g e => ?_⟩
        · cases r2 with
          | none => exact .inr (.inl rfl)
          | some g => exact .inr (.inr ⟨g, rfl, by have := HO2.out.2 g rfl; omega⟩)
        · rcases hr4 with h | h
          · have := HO2.out.2 g (h.symm.trans e); omega
          · rw [h] at e; simp at e; omega
      clear ho4 hg4 hr4
      go_wp2
      go_ret
      exact HP.out
  · have HLF : Hid (lf ps f = (lfB ps f, ps.tail)) := by unfold Hid lf; rw [hn, List.getElem?_eq_none (by omega)]; rfl
    have HP : Hid (LvPost ps f C w (.returned (.slice a2 n2 c2)) w2) := by
      unfold Hid LvPost
      rw [HLF.out]
      exact ⟨a2, n2, c2, r2, rfl, HO2.out.1, ⟨v1, HV2.out⟩, HG2.out, fun g e => by have := HO2.out.2 g e; omega⟩
    have hge : n = f.chg.length := by omega
    clear hlt
    go_wp2
    go_ret
    exact HP.out
end Go.Proofs.YthcnhjmkcekdaaaGreat

namespace Go.Proofs.YthcnhjmkcekdaaaGreat
open Go.RowKit Go.Maps Go.Sort Go.Shelf Plain
set_option linter.unusedVariables false
set_option linter.unusedSimpArgs false
theorem sortsA (m : Nat) : AnyZ.SortsIn Tryz.prog Tryz.sortedA_ren Fence.wide m :=
  ⟨fun blk off cap ss W hH hblk hsz => callsIn_wide.2 (AnyM.slices_Sort_string Tryz.sortA blk off cap ss W hH hblk hsz),
   fun p cap W => callsIn_wide.2 (AnyM.slices_Sort_string_none Tryz.sortA p cap W)⟩
set_option maxHeartbeats 1000000 in
theorem risingAt (b : Nat) (L : Dir) (w : World) (hown : MapAt w b L) (hmax : L.length < 4398046511104) :
    Calls Tryz.prog 83 #[.map (some b)] w fun e w' => ∃ (v : Value) (ss : List (List UInt8)), e = .returned v ∧ ss.Perm (L.map (·.1)) ∧
      w'.ownsRow w.heap.size 9 1 v ss.length ((ss.mergeSort (fun x y => decide (x ≤ y))).map encStr) ∧ (v = .slice none 0 0 ↔ ss = []) ∧ Below w.heap.size w w' := by
  have hsize : Maps.size (toD L) = L.length := toD_size L
  rw [← toD_keys]
  refine (callsIn_wide (n := 6)).1 ?_
  have hbl := hown.lt
  have hseq : SeqGives Fence.wide 2 Tryz.prog 92 #[.pointer (some ⟨w.heap.size, 0, none⟩)] encStr (fun ss => ss.Perm (strKeys (toD L))) (Maps.size (toD L)) (w.alloc (.cells #[.map (some b)] 65)) :=
    AnyZ.keys_gives (ρ := Tryz.keysA_ren) { Tryz.keysA with } Fence.wide _ trivial rfl (by omega) w.heap.size b L.length (toD L) _ (by simp) (by simp) (by
      obtain ⟨es, clock, hb, Ft, hs, hD⟩ := hown
      exact ⟨es, clock, (Below.heap_alloc _ _ b hbl).trans hb, Ft, hs, hD⟩)
  have cK : ∀ mb W, CallsIn Fence.wide 5 Tryz.prog 89 #[.map mb] W fun e w' => e = .returned (.func (.func 92) #[] #[.pointer (some ⟨W.heap.size, 0, none⟩)]) ∧ w' = W.alloc (.cells #[.map mb] 65) := fun mb W => AnyZ.keys_in Tryz.keysA Fence.wide 5 trivial rfl mb W
  have cS := AnyZ.sorted_in Tryz.sortedA Fence.wide 5 trivial trivial trivial trivial rfl (by omega) (sortsA _) (enters_of Tryz.func91 (by kernel_rfl) rfl) 92 #[.pointer (some ⟨w.heap.size, 0, none⟩)] trivial (enters_of Tryz.func92 (by kernel_rfl) rfl) _ _ (by rw [hsize]; unfold maxLen; omega) (by rw [hsize]; omega) _ hseq
  change CallsIn _ _ Tryz.prog 88 _ _ _ at cS
  have hfK : Fence.wide.fn 89 := trivial
  have hfS : Fence.wide.fn 88 := trivial
  clear hown
  refine callsIn_of_wp Tryz.func83 rfl trivial ?_ rfl
  simp only [Tryz.ntmps83, List.size_toArray, List.length_cons, List.length_nil, Nat.reduceAdd, Nat.reduceSub, Array.replicate_succ, Array.replicate_zero, List.push_toArray, List.append_toArray, List.nil_append, List.cons_append]
  gi_wp2_with (first
    | (gi_at_call 89; refine (cK _ _).mono ?_; rintro e w' ⟨rfl, rfl⟩)
    | (gi_at_call 88; refine cS.mono ?_; rintro e w' ⟨v, ss, rfl, hS, hrow, hnil, hb⟩))
  go_ret
  exact ⟨v, ss, rfl, hS, ownsRow_base_a hrow (by simp), hnil, ((Below.refl _ w).alloc (Nat.le_refl _) _).trans (hb.mono (by simp))⟩
set_option maxHeartbeats 1000000 in
theorem risingNil (w : World) : Calls Tryz.prog 83 #[.map none] w fun e w' => e = .returned (.slice none 0 0) ∧ Below w.heap.size w w' := by
  refine (callsIn_wide (n := 6)).1 ?_
  have hseq : SeqGives Fence.wide 2 Tryz.prog 92 #[.pointer (some ⟨w.heap.size, 0, none⟩)] encStr (fun ss : List (List UInt8) => ss = []) 0 (w.alloc (.cells #[.map none] 65)) :=
    AnyZ.keys_gives_nil (ρ := Tryz.keysA_ren) { Tryz.keysA with } Fence.wide _ trivial rfl w.heap.size _ (by simp) (by simp)
  have cK : ∀ mb W, CallsIn Fence.wide 5 Tryz.prog 89 #[.map mb] W fun e w' => e = .returned (.func (.func 92) #[] #[.pointer (some ⟨W.heap.size, 0, none⟩)]) ∧ w' = W.alloc (.cells #[.map mb] 65) := fun mb W => AnyZ.keys_in Tryz.keysA Fence.wide 5 trivial rfl mb W
  have cS := AnyZ.sorted_in Tryz.sortedA Fence.wide 5 trivial trivial trivial trivial rfl (by omega) (sortsA _) (enters_of Tryz.func91 (by kernel_rfl) rfl) 92 #[.pointer (some ⟨w.heap.size, 0, none⟩)] trivial (enters_of Tryz.func92 (by kernel_rfl) rfl) _ 0 (Nat.zero_le _) (by omega) _ hseq
  change CallsIn _ _ Tryz.prog 88 _ _ _ at cS
  have hfK : Fence.wide.fn 89 := trivial
  have hfS : Fence.wide.fn 88 := trivial
  refine callsIn_of_wp Tryz.func83 rfl trivial ?_ rfl
  simp only [Tryz.ntmps83, List.size_toArray, List.length_cons, List.length_nil, Nat.reduceAdd, Nat.reduceSub, Array.replicate_succ, Array.replicate_zero, List.push_toArray, List.append_toArray, List.nil_append, List.cons_append]
  gi_wp2_with (first
    | (gi_at_call 89; refine (cK _ _).mono ?_; rintro e w' ⟨rfl, rfl⟩)
    | (gi_at_call 88; refine cS.mono ?_; rintro e w' ⟨v, ss, rfl, rfl, hrow, hnil, hb⟩; obtain rfl : v = .slice none 0 0 := hnil.2 rfl))
  go_ret
  exact ⟨rfl, ((Below.refl _ w).alloc (Nat.le_refl _) _).trans (hb.mono (by simp))⟩
/-- A clone of a directory. -/
theorem mcloneOf (m : Option Nat) (L : Dir) (w : World) (h : MapO w m L) : Calls Tryz.prog 68 #[.map m] w fun e w' => ∃ m', e = .returned (.map m') ∧ MapO w' m' L ∧ Below w.heap.size w w' ∧ (∀ g, m' = some g → w.heap.size ≤ g) := by
  rcases h with ⟨rfl, rfl⟩ | ⟨b, rfl, h⟩
  · refine (AnyW.maps_Clone_nil Tryz.mcloneA w).mono ?_
    rintro e w' ⟨rfl, rfl⟩
    exact ⟨none, rfl, .inl ⟨rfl, rfl⟩, Below.refl _ _, by simp⟩
  · refine (AnyW.maps_Clone_owns Tryz.mcloneA 9 Rp b L.length (toD L) w h).mono ?_
    rintro e w' ⟨rfl, h1, _, h2⟩
    exact ⟨some w.heap.size, rfl, .inr ⟨_, rfl, h1⟩, h2, fun g e => by simp at e; omega⟩
end Go.Proofs.YthcnhjmkcekdaaaGreat
