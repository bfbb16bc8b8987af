import Derived.Test.YtgpmhflndcppeaaQp06
import Derived.Test.YtgpmhflndcppeaaQp00
import Derived.Deep.DeepAppendWide
import Derived.Test.YtgpmhflndcppeaaQp05
/-! What a loss of power leaves of a file. -/
namespace Go.Proofs.Ytgpmhflndcppeaa
open Go.RowKit Go.Maps Plain
set_option linter.unusedVariables false
set_option linter.unusedSimpArgs false

set_option maxRecDepth 1000000 in
theorem truTornOf (x : Value) (p : Value) (w : World) (m : Nat) (hx : x = .agg #[.int .i64 ((m : Nat) : Int)]) : Calls Try.prog 101 #[x, p] w fun e w' => e = .returned (.slice none 0 0) ∧ Below w.heap.size w w' := by
  subst hx
  go_enter Try.func101, Try.ntmps101
  go_wp2
  go_ret
  exact ⟨rfl, (Below.refl _ _).alloc (Nat.le_refl _) _⟩

def lfB (ps : List Int) (f : Fl) : List Nat := fst f.dur (f.chg.take (upV ps f.chg.length))
/-- What of a change is left, if the power goes in its midst; the picks that are left. -/
def tornB (ps : List Int) (c : FC) : List Nat × List Int := Sum.elim (fun b => (b.take (upV ps b.length), ps.tail)) (fun _ => ([], ps)) c
theorem tornB_add (ps : List Int) (b : List Nat) : tornB ps (FC.add b) = (b.take (upV ps b.length), ps.tail) := rfl
theorem tornB_cut (ps : List Int) (n : Nat) : tornB ps (FC.cut n) = ([], ps) := rfl
def lf (ps : List Int) (f : Fl) : List Nat × List Int := (f.chg[upV ps f.chg.length]?).elim (lfB ps f, ps.tail) fun c => (lfB ps f ++ (tornB ps.tail c).1, (tornB ps.tail c).2)
def LvPost (ps : List Int) (f : Fl) (C : Nat) (w : World) (e : Ending) (w' : World) : Prop := ∃ a' n' c' r', e = .returned (.slice a' n' c') ∧ Own w' (.slice a' n' c') (lf ps f).1 r' ∧ (∃ v', ChoAt w' C v' (lf ps f).2) ∧ w.grownBy w' (some C) ∧ (∀ g, r' = some g → w.heap.size ≤ g)

set_option maxHeartbeats 4000000 in
set_option maxRecDepth 1000000 in
theorem leavesOf (w : World) (G : Nat) (f : Fl) (S : Nat → Prop) (C : Nat) (v : Value) (ps : List Int) (h : FileAt w G f S) (hf : f.Ok) (hc : ChoAt w C v ps) (hSC : ¬ S C) :
    Calls Try.prog 22 #[.pointer (some ⟨G, 0, none⟩), .pointer (some ⟨C, 0, none⟩)] w (LvPost ps f C w) := by
  have hcnt := hf.cnt
  have HF0 : Hid (FileAt w G f S) := h
  have HSC : Hid (¬ S C) := hSC
  have HOK : Hid f.Ok := hf
  have HFR : Hid (∀ w', w.grownBy w' (some C) → FileAt w' G f S) := fun w' hg => h.frame hg.size (fun k hk => hg.block k (h.live k hk) (fun e => by simp at e; exact hSC (e ▸ hk)))
  have hcells : ∃ a c, w.cell? ⟨G, 2, none⟩ = some (.slice a f.chg.length c) ∧ f.chg.length ≤ c ∧ c ≤ 2 ^ 63 - 1 := by
    obtain ⟨vs, vd, vc, rs, rd, rc, vals, blk, hm, _⟩ := h
    obtain ⟨_, _, c2, _⟩ := fcells hm.blkG
    obtain ⟨a, cap, e, h1, h2⟩ := hm.chg.row.shape
    unfold maxLen at h1
    rw [hm.chg.len] at e h2
    exact ⟨a, cap, by rw [← e]; exact c2, h2, h1⟩
  obtain ⟨ac, cc, k0, k1, k2⟩ := hcells
  have HUP : Hid (Calls Try.prog 18 #[.pointer (some ⟨C, 0, none⟩), .int .i64 (f.chg.length : Int)] w fun e w' => e = .returned (.int .i64 (upV ps f.chg.length : Int)) ∧ (∃ v', ChoAt w' C v' ps.tail) ∧ w.grownBy w' (some C)) := upToOf w C v ps f.chg.length hc (by omega)
  have hCl := hc.lt
  have hGl := h.self
  have hGC : G ≠ C := fun e => hSC (by
    obtain ⟨_, _, _, _, _, _, _, _, _, h2, _⟩ := h
    exact e ▸ h2 G (.inl rfl))
  have hle := upV_le ps f.chg.length
  clear h hf hc hSC
  go_enter Try.func22, Try.ntmps22
  go_wp2_with fail
  refine HUP.out.mono ?_
  rintro e w1 ⟨rfl, ⟨v1, hv1⟩, hg1⟩
  have HV1 : Hid (ChoAt w1 C v1 ps.tail) := hv1
  have HG1 : Hid (w.grownBy w1 (some C)) := hg1
  have HF1 : Hid (FileAt w1 G f S) := HFR.out w1 hg1
  have HPA : Hid (Calls Try.prog 44 #[.pointer (some ⟨G, 0, none⟩), .int .i64 (upV ps f.chg.length : Int), .func (.func 33) #[] #[]] w1 (PastPost (lfB ps f) w1)) := pastFOf w1 G f S HF1.out HOK.out _ hle
  have hsz1 := hg1.size
  clear hv1 hg1
  go_wp2_with fail
  refine HPA.out.mono ?_
  rintro e w2 ⟨a2, n2, c2, r2, rfl, ho2, hb2, hr2⟩
  have HO2 : Hid (Own w2 (.slice a2 n2 c2) (lfB ps f) r2 ∧ (∀ g, r2 = some g → w1.heap.size ≤ g)) := ⟨ho2, hr2⟩
  have HV2 : Hid (ChoAt w2 C v1 ps.tail) := HV1.out.later hb2
  have HG2 : Hid (w.grownBy w2 (some C)) := grow_trans HG1.out (below_grow hb2 none) (.inr (.inl rfl))
  have HF2 : Hid (FileAt w2 G f S) := HFR.out w2 HG2.out
  have q0 : w2.cell? ⟨G, 2, none⟩ = some (.slice ac f.chg.length cc) := HG2.out.cell k0 (by simp; exact hGC)
  obtain ⟨p1, p2⟩ := own_cap ho2
  have hsz2 := hb2.size
  clear ho2 hb2 hr2
  generalize hn : upV ps f.chg.length = n at *
  by_cases hlt : n < f.chg.length
  · obtain ⟨c, hck⟩ : ∃ c, f.chg[n]? = some c := ⟨_, List.getElem?_eq_getElem hlt⟩
    have HLF : Hid (lf ps f = (lfB ps f ++ (tornB ps.tail c).1, (tornB ps.tail c).2)) := by unfold Hid lf; rw [hn, hck]; rfl
    have hone : ∃ (gc : Nat) (x : Value) (q : Option Nat), ac = some ⟨gc, 0, none⟩ ∧ w2.cell? ⟨gc, n, none⟩ = some x ∧ ChOne w2 c x q ∧ ∀ g, q = some g → S g := by
      obtain ⟨vs, vd, vc, rs, rd, rc, vals, blk, hm, hS, _⟩ := HF2.out
      obtain ⟨_, _, c2', _⟩ := fcells hm.blkG
      rw [q0] at c2'
      simp at c2'
      subst c2'
      obtain ⟨x, hx, hcx⟩ := hm.chg.one n c hck
      obtain ⟨g, _, h2, h3⟩ := hm.chg.row.get hx
      exact ⟨g, x, blk n, h2, h3, hcx, fun g e => hS g (.inr (.inr (.inr (.inr ⟨n, e⟩))))⟩
    obtain ⟨gc, x, q, rfl, hcell, hcx, hqS⟩ := hone
    cases c using FC.elim with
    | add b =>
      obtain ⟨vb, rfl, hov⟩ := ChOne.add.mp hcx
      obtain ⟨ab, nb, cb, rfl⟩ := isSliceO hov
      have HB : Hid (Own w2 (.slice ab nb cb) b q ∧ ∀ g, q = some g → S g) := ⟨hov, hqS⟩
      have hbl : b.length ≤ 4611686018427387904 := by
        have h1 := own_len hov
        obtain ⟨h2, h3⟩ := own_cap hov
        have h4 := HOK.out.len (n + 1)
        rw [fst_take _ _ _ _ hck, FC.on_add, List.length_append] at h4
        omega
      have hbl2 : (lfB ps f).length + b.length ≤ 70368744177664 := by
        have h4 := HOK.out.len (n + 1)
        rw [fst_take _ _ _ _ hck, FC.on_add, List.length_append] at h4
        unfold lfB
        rw [hn]
        exact h4
      have HTO : Hid (Calls Try.prog 99 #[.agg #[.slice ab nb cb], .pointer (some ⟨C, 0, none⟩)] w2 fun e w' => e = .returned (.slice ab (upV ps.tail b.length) cb) ∧ (∃ v', ChoAt w' C v' ps.tail.tail) ∧ w2.grownBy w' (some C)) := addTornOf ab nb cb b w2 C v1 ps.tail hov.bytes HV2.out hbl
      have hm := methAddT (.agg #[.slice ab nb cb]) w2
      clear hcx hov hqS hck
      go_wp2_with fail
      refine HTO.out.mono ?_
      rintro e w3 ⟨rfl, ⟨v3, hv3⟩, hg3⟩
      have hml := upV_le ps.tail b.length
      have HB3 : Hid (BytesAt w3 (.slice ab (upV ps.tail b.length) cb) (b.take (upV ps.tail b.length))) := by
        have hk : Own w3 (.slice ab nb cb) b q := HB.out.1.kept hg3 (by
          cases q with
          | none => exact .inl rfl
          | some g => exact .inr (fun e => by simp at e; exact HSC.out (e ▸ HB.out.2 g rfl)))
        exact hk.bytes.take _ hml
      have HO3 : Hid (Own w3 (.slice a2 n2 c2) (lfB ps f) r2) := HO2.out.1.kept hg3 (by
          cases r2 with
          | none => exact .inl rfl
          | some g => exact .inr (fun e => by simp at e; have := HO2.out.2 g rfl; omega))
      have HV3 : Hid (ChoAt w3 C v3 ps.tail.tail) := hv3
      have HG3 : Hid (w.grownBy w3 (some C)) := grow_trans HG2.out hg3 (.inl rfl)
      have hsz3 := hg3.size
      clear hv3 hg3 hm
      go_wp2_with (at_builtin; refine wpList_append_row _ rfl _ _ 28 28 rfl Try.underlying28 _ _ (lfB ps f) (b.take (upV ps.tail b.length)) r2 rfl rfl ?hOwn ?hByte ?hSrc ?hLen ?_)
      case hOwn => exact HO3.out
      case hByte => exact HB3.out.byte
      case hSrc => exact src_of Try.underlying28 HB3.out
      case hLen => rw [List.length_take]; omega
      intro v4 w4 r4 ho4 hg4 hr4 hn4
      obtain ⟨a4, n4, c4, rfl⟩ := isSliceO ho4
      have HP : Hid (LvPost ps f C w (.returned (.slice a4 n4 c4)) w4) := by
        unfold Hid LvPost
        rw [HLF.out, tornB_add]
        refine ⟨a4, n4, c4, r4, rfl, ho4, ⟨v3, HV3.out.kept hg4 (fun g e => by have := HO2.out.2 g e; omega)⟩, grow_trans HG3.out hg4 ?_, fun g e => ?_⟩
        · cases r2 with
          | none => exact .inr (.inl rfl)
          | some g => exact .inr (.inr ⟨g, rfl, by have := HO2.out.2 g rfl; omega⟩)
        · rcases hr4 with h | h
          · have := HO2.out.2 g (h.symm.trans e); omega
          · rw [h] at e; simp at e; omega
      clear ho4 hg4 hr4 hn4
      go_wp2
      go_ret
      exact HP.out
    | cut m =>
      rw [ChOne.cut] at hcx
      subst hcx
      have hm := methTruT (.agg #[.int .i64 ((m : Nat) : Int)]) w2
      have hbl2 : (lfB ps f).length ≤ 70368744177664 := HOK.out.len _
      clear hqS hck
      go_wp2_with fail
      refine (truTornOf _ _ w2 m rfl).mono ?_
      rintro e w3 ⟨rfl, hb3⟩
      have HBW : Hid (Below w2.heap.size w2 w3) := hb3
      have hsz3 := hb3.size
      clear hb3 hm
      go_wp2_with (at_builtin; refine wpList_append_row _ rfl _ _ 28 28 rfl Try.underlying28 _ _ (lfB ps f) [] r2 rfl rfl ?hOwn ?hByte ?hSrc ?hLen ?_)
      case hOwn => exact HO2.out.1.later HBW.out
      case hByte => simp
      case hSrc => exact src_of Try.underlying28 (BytesAt.nil _)
      case hLen => simp; omega
      intro v4 w4 r4 ho4 hg4 hr4
      obtain ⟨a4, n4, c4, rfl⟩ := isSliceO ho4
      have HP : Hid (LvPost ps f C w (.returned (.slice a4 n4 c4)) w4) := by
        unfold Hid LvPost
        rw [HLF.out, tornB_cut]
        refine ⟨a4, n4, c4, r4, rfl, by simpa using ho4, ⟨v1, (HV2.out.later HBW.out).kept hg4 (fun g e => by have := HO2.out.2 g e; omega)⟩, grow_trans (grow_trans HG2.out (below_grow HBW.out none) (.inr (.inl rfl))) hg4 ?_, fun g e => ?_⟩
        · cases r2 with
          | none => exact .inr (.inl rfl)
          | some g => exact .inr (.inr ⟨g, rfl, by have := HO2.out.2 g rfl; omega⟩)
        · rcases hr4 with h | h
          · have := HO2.out.2 g (h.symm.trans e); omega
          · rw [h] at e; simp at e; omega
      clear ho4 hg4 hr4
      go_wp2
      go_ret
      exact HP.out
  · have HLF : Hid (lf ps f = (lfB ps f, ps.tail)) := by unfold Hid lf; rw [hn, List.getElem?_eq_none (by omega)]; rfl
    have HP : Hid (LvPost ps f C w (.returned (.slice a2 n2 c2)) w2) := by
      unfold Hid LvPost
      rw [HLF.out]
      exact ⟨a2, n2, c2, r2, rfl, HO2.out.1, ⟨v1, HV2.out⟩, HG2.out, fun g e => by have := HO2.out.2 g e; omega⟩
    have hge : n = f.chg.length := by omega
    clear hlt
    go_wp2
    go_ret
    exact HP.out
end Go.Proofs.Ytgpmhflndcppeaa

/-! The names of a directory, rising; a clone of a directory. -/
namespace Go.Proofs.Ytgpmhflndcppeaa
open Go.RowKit Go.Maps Go.Sort Go.Shelf Plain
set_option linter.unusedVariables false
set_option linter.unusedSimpArgs false

theorem sortsA (m : Nat) : AnyZ.SortsIn Try.prog Try.sortedA_ren Fence.wide m :=
  ⟨fun blk off cap ss W hH hblk hsz => callsIn_wide.2 (AnyM.slices_Sort_string Try.sortA blk off cap ss W hH hblk hsz),
   fun p cap W => callsIn_wide.2 (AnyM.slices_Sort_string_none Try.sortA p cap W)⟩

set_option maxHeartbeats 1000000 in
theorem risingAt (b : Nat) (L : Dir) (w : World) (hown : MapAt w b L) (hmax : L.length < 4398046511104) :
    Calls Try.prog 43 #[.map (some b)] w fun e w' => ∃ (v : Value) (ss : List (List UInt8)), e = .returned v ∧ ss.Perm (L.map (·.1)) ∧
      w'.ownsRow w.heap.size 9 1 v ss.length ((ss.mergeSort (fun x y => decide (x ≤ y))).map encStr) ∧ (v = .slice none 0 0 ↔ ss = []) ∧ Below w.heap.size w w' := by
  have hsize : Maps.size (toD L) = L.length := toD_size L
  rw [← toD_keys]
  refine (callsIn_wide (n := 6)).1 ?_
  have hbl := hown.lt
  have hseq : SeqGives Fence.wide 2 Try.prog 59 #[.pointer (some ⟨w.heap.size, 0, none⟩)] encStr (fun ss => ss.Perm (strKeys (toD L))) (Maps.size (toD L)) (w.alloc (.cells #[.map (some b)] 59)) :=
    AnyZ.keys_gives (ρ := Try.keysA_ren) { Try.keysA with } Fence.wide _ trivial rfl (by omega) w.heap.size b L.length (toD L) _ (by simp) (by simp) (by
      obtain ⟨es, clock, hb, Ft, hs, hD⟩ := hown
      exact ⟨es, clock, (Below.heap_alloc _ _ b hbl).trans hb, Ft, hs, hD⟩)
  have cK : ∀ mb W, CallsIn Fence.wide 5 Try.prog 54 #[.map mb] W fun e w' => e = .returned (.func (.func 59) #[] #[.pointer (some ⟨W.heap.size, 0, none⟩)]) ∧ w' = W.alloc (.cells #[.map mb] 59) := fun mb W => AnyZ.keys_in Try.keysA Fence.wide 5 trivial rfl mb W
  have cS := AnyZ.sorted_in Try.sortedA Fence.wide 5 trivial trivial trivial trivial rfl (by omega) (sortsA _) (enters_of Try.func58 (by kernel_rfl) rfl) 59 #[.pointer (some ⟨w.heap.size, 0, none⟩)] trivial (enters_of Try.func59 (by kernel_rfl) rfl) _ _ (by rw [hsize]; unfold maxLen; omega) (by rw [hsize]; omega) _ hseq
  change CallsIn _ _ Try.prog 53 _ _ _ at cS
  have hfK : Fence.wide.fn 54 := trivial
  have hfS : Fence.wide.fn 53 := trivial
  clear hown
  refine callsIn_of_wp Try.func43 rfl trivial ?_ rfl
  simp only [Try.ntmps43, List.size_toArray, List.length_cons, List.length_nil, Nat.reduceAdd, Nat.reduceSub, Array.replicate_succ, Array.replicate_zero, List.push_toArray, List.append_toArray, List.nil_append, List.cons_append]
  gi_wp2_with (first
    | (gi_at_call 54; refine (cK _ _).mono ?_; rintro e w' ⟨rfl, rfl⟩)
    | (gi_at_call 53; refine cS.mono ?_; rintro e w' ⟨v, ss, rfl, hS, hrow, hnil, hb⟩))
  go_ret
  exact ⟨v, ss, rfl, hS, ownsRow_base_a hrow (by simp), hnil, ((Below.refl _ w).alloc (Nat.le_refl _) _).trans (hb.mono (by simp))⟩

set_option maxHeartbeats 1000000 in
theorem risingNil (w : World) : Calls Try.prog 43 #[.map none] w fun e w' => e = .returned (.slice none 0 0) ∧ Below w.heap.size w w' := by
  refine (callsIn_wide (n := 6)).1 ?_
  have hseq : SeqGives Fence.wide 2 Try.prog 59 #[.pointer (some ⟨w.heap.size, 0, none⟩)] encStr (fun ss : List (List UInt8) => ss = []) 0 (w.alloc (.cells #[.map none] 59)) :=
    AnyZ.keys_gives_nil (ρ := Try.keysA_ren) { Try.keysA with } Fence.wide _ trivial rfl w.heap.size _ (by simp) (by simp)
  have cK : ∀ mb W, CallsIn Fence.wide 5 Try.prog 54 #[.map mb] W fun e w' => e = .returned (.func (.func 59) #[] #[.pointer (some ⟨W.heap.size, 0, none⟩)]) ∧ w' = W.alloc (.cells #[.map mb] 59) := fun mb W => AnyZ.keys_in Try.keysA Fence.wide 5 trivial rfl mb W
  have cS := AnyZ.sorted_in Try.sortedA Fence.wide 5 trivial trivial trivial trivial rfl (by omega) (sortsA _) (enters_of Try.func58 (by kernel_rfl) rfl) 59 #[.pointer (some ⟨w.heap.size, 0, none⟩)] trivial (enters_of Try.func59 (by kernel_rfl) rfl) _ 0 (Nat.zero_le _) (by omega) _ hseq
  change CallsIn _ _ Try.prog 53 _ _ _ at cS
  have hfK : Fence.wide.fn 54 := trivial
  have hfS : Fence.wide.fn 53 := trivial
  refine callsIn_of_wp Try.func43 rfl trivial ?_ rfl
  simp only [Try.ntmps43, List.size_toArray, List.length_cons, List.length_nil, Nat.reduceAdd, Nat.reduceSub, Array.replicate_succ, Array.replicate_zero, List.push_toArray, List.append_toArray, List.nil_append, List.cons_append]
  gi_wp2_with (first
    | (gi_at_call 54; refine (cK _ _).mono ?_; rintro e w' ⟨rfl, rfl⟩)
    | (gi_at_call 53; refine cS.mono ?_; rintro e w' ⟨v, ss, rfl, rfl, hrow, hnil, hb⟩; obtain rfl : v = .slice none 0 0 := hnil.2 rfl))
  go_ret
  exact ⟨rfl, ((Below.refl _ w).alloc (Nat.le_refl _) _).trans (hb.mono (by simp))⟩

/-- A clone of a directory. -/
theorem mcloneOf (m : Option Nat) (L : Dir) (w : World) (h : MapO w m L) : Calls Try.prog 19 #[.map m] w fun e w' => ∃ m', e = .returned (.map m') ∧ MapO w' m' L ∧ Below w.heap.size w w' ∧ (∀ g, m' = some g → w.heap.size ≤ g) := by
  rcases h with ⟨rfl, rfl⟩ | ⟨b, rfl, h⟩
  · refine (AnyW.maps_Clone_nil Try.mcloneA w).mono ?_
    rintro e w' ⟨rfl, rfl⟩
    exact ⟨none, rfl, .inl ⟨rfl, rfl⟩, Below.refl _ _, by simp⟩
  · refine (AnyW.maps_Clone_owns Try.mcloneA 9 Rp b L.length (toD L) w h).mono ?_
    rintro e w' ⟨rfl, h1, _, h2⟩
    exact ⟨some w.heap.size, rfl, .inr ⟨_, rfl, h1⟩, h2, fun g e => by simp at e; omega⟩
end Go.Proofs.Ytgpmhflndcppeaa

/-! What the directory was some changes behind the durable state. -/
namespace Go.Proofs.Ytgpmhflndcppeaa
open Go.RowKit Go.Maps Plain
set_option linter.unusedVariables false
set_option linter.unusedSimpArgs false

theorem DOk.take {L : Dir} {cs : List DC} (h : DOk L cs) (n : Nat) : DOk L (cs.take n) := by
  refine ⟨fun k c hk => ?_, fun k => ?_, ?_⟩
  · have hkn : k < n := by
      have := (List.getElem?_eq_some_iff.mp hk).1
      simp at this; omega
    rw [List.getElem?_take_of_lt hkn] at hk
    rw [List.take_take, Nat.min_eq_left (by omega)]
    exact h.can k c hk
  · rw [List.take_take]
    exact h.len _
  · have := h.cnt
    simp; omega
def PastDPost (L : Dir) (w : World) (e : Ending) (w' : World) : Prop := ∃ m', e = .returned (.map m') ∧ MapO w' m' L ∧ Below w.heap.size w w' ∧ (∀ g, m' = some g → w.heap.size ≤ g)

set_option maxHeartbeats 2000000 in
set_option maxRecDepth 1000000 in
theorem pastDOf (w : World) (d : Nat) (k : Dk) (S : Nat → Prop) (h : DiskAt w d k S) (hk : DOk k.Ld k.chg) (n : Nat) (hn : n ≤ k.chg.length) :
    Calls Try.prog 17 #[.pointer (some ⟨d, 0, none⟩), .int .i64 (n : Int), .func (.func 19) #[] #[]] w (PastDPost (dst k.Ld (k.chg.take n)) w) := by
  obtain ⟨ms, md, vc, rc, Sf, hm, hS1, hS2, hS3⟩ := h
  obtain ⟨⟨c0, c1, c2, _, _, _, _, _, _⟩, _⟩ := dcells hm.cells
  obtain ⟨ac, nc, cc, rfl⟩ := isSliceV hm.chg
  have hnc : nc = k.chg.length := by
    obtain ⟨a, cap, e, _⟩ := hm.chg.shape
    injection e with _ e2 _
    rw [e2, List.length_map]
  obtain ⟨q1, q2⟩ : nc ≤ cc ∧ cc ≤ 2 ^ 63 - 1 := by
    obtain ⟨a, cap, e, h1, h2⟩ := hm.chg.shape
    injection e with _ e2 e3
    unfold maxLen at h1
    omega
  have hcnt := hk.cnt
  have HCL : Hid (Calls Try.prog 19 #[.map md] w.drew fun e w' => ∃ m', e = .returned (.map m') ∧ MapO w' m' k.Ld ∧ Below w.drew.heap.size w.drew w' ∧ (∀ g, m' = some g → w.drew.heap.size ≤ g)) := mcloneOf md k.Ld w.drew (hm.dur.of_block (fun _ _ => rfl))
  have HAF : Hid (∀ (w3 : World) (m3 : Option Nat), MapO w3 m3 k.Ld → Below w.heap.size w w3 → (∀ g, m3 = some g → w.heap.size ≤ g) → Calls Try.prog 41 #[.map m3, .slice ac n cc] w3 (PastDPost (dst k.Ld (k.chg.take n)) w)) := fun w3 m3 ho hb hr => by
    have hrow : OwnV w3 (.slice ac n cc) ((k.chg.take n).map DC.val) rc := by
      rw [List.map_take]
      exact (hm.chg.take n (by rw [List.length_map]; exact hn)).of_block hb.size (fun g e => hb.block g (hm.chg.rlt g e))
    refine (afterDOf m3 (.slice ac n cc) k.Ld (k.chg.take n) rc w3 ho hrow (fun g e e2 => by have := hr g e; have := hm.chg.rlt g e2; omega) (hk.take n)).mono ?_
    rintro e w4 ⟨m4, rfl, ho4, hg4, hr4⟩
    have hs := hb.size
    refine ⟨m4, rfl, ho4, hb.trans (grow_below hg4 hs hr), fun g e => ?_⟩
    rcases hr4 with h | ⟨g', h, h2⟩
    · exact hr g (h.symm.trans e)
    · rw [h] at e; simp at e; omega
  have HBD : Hid (Below w.heap.size w w.drew) := (Below.refl _ _).drew
  subst hnc
  clear hm hS1 hS2 hS3 hk
  go_enter Try.func17, Try.ntmps17
  go_wp2
  go_region_with (first
    | (go_at_call 19
       refine HCL.out.mono ?_
       rintro e w3 ⟨m3, rfl, ho3, hb3, hr3⟩
       have hbW : Below w.heap.size w w3 := HBD.out.trans hb3
       have HAF3 : Hid (Calls Try.prog 41 #[.map m3, .slice ac n cc] w3 (PastDPost (dst k.Ld (k.chg.take n)) w)) := HAF.out w3 m3 ho3 hbW hr3
       have k1 : w3.cell? ⟨d, 1, none⟩ = some (.map md) := by rw [hbW.cell (cell_lt c1)]; exact c1
       have k2 : w3.cell? ⟨d, 2, none⟩ = some (.slice ac k.chg.length cc) := by rw [hbW.cell (cell_lt c2)]; exact c2
       clear ho3 hb3 hr3 hbW)
    | (go_at_call 41
       refine HAF3.out.mono ?_
       rintro e w4 ⟨m4, rfl, h4⟩
       have HP : Hid (PastDPost (dst k.Ld (k.chg.take n)) w (.returned (.map m4)) w4) := ⟨m4, rfl, h4⟩
       clear h4))
  all_goals
    go_wp2
    go_ret
    exact HP.out
end Go.Proofs.Ytgpmhflndcppeaa

/-! Rows of files: a name and bytes. -/
namespace Go.Proofs.Ytgpmhflndcppeaa
open Go.RowKit Plain
set_option linter.unusedVariables false
set_option linter.unusedSimpArgs false

structure Fi where
  name : ByteArray
  data : Value
def Fi.none : Fi := ⟨ByteArray.empty, .slice Option.none 0 0⟩
def Fi.cells (x : Fi) : List Value := [.string x.name, x.data]
def Fi.agg (x : Fi) : Value := .agg #[.string x.name, x.data]
def icells (ts : List Fi) : List Value := ts.flatMap Fi.cells
theorem icells_app (ts ks : List Fi) : icells (ts ++ ks) = icells ts ++ icells ks := by simp [icells]
theorem icells_cons (t : Fi) (ts : List Fi) : icells (t :: ts) = [.string t.name, t.data] ++ icells ts := rfl
theorem icells_len : ∀ (ts : List Fi), (icells ts).length = 2 * ts.length
  | [] => rfl
  | t :: ts => by
    have := icells_len ts
    rw [icells_cons, List.length_append, this]
    simp only [List.length_cons, List.length_nil]
    omega
theorem icells_get (ts : List Fi) (j i : Nat) (h : j < ts.length) (hi : i < 2) : (icells ts)[j * 2 + i]? = (ts.getD j Fi.none).cells[i]? := by
  induction ts generalizing j with
  | nil => simp at h
  | cons t ts ih =>
    cases j with
    | zero =>
      rw [icells_cons, List.getElem?_append_left (by simp; omega)]
      simp [Fi.cells]
    | succ j =>
      have := ih j (by simpa using h)
      rw [icells_cons, List.getElem?_append_right (by simp; omega)]
      simpa [show (j + 1) * 2 + i - 2 = j * 2 + i by omega] using this

theorem infoFile : (Try.prog.info? 103).map (fun i => (i.zero, i.size, i.bytes)) = some (some Fi.none.agg, 2, 40) := by kernel_rfl

/-- v is a slice of records of the call's own, in block r. -/
def OwnI (w : World) (v : Value) (ts : List Fi) (r : Option Nat) : Prop :=
  (v = .slice none 0 0 ∧ ts = [] ∧ r = none) ∨
  ∃ g cap, r = some g ∧ v = .slice (some ⟨g, 0, none⟩) ts.length cap ∧ g < w.heap.size ∧ ts.length ≤ cap ∧ cap ≤ maxLen ∧ (∀ j, j < 2 * cap → w.frozen? ⟨g, j, none⟩ = false) ∧ (∀ j, j < 2 * cap → (w.cell? ⟨g, j, none⟩).isSome = true) ∧
    ∀ j, j < 2 * ts.length → w.cell? ⟨g, j, none⟩ = (icells ts)[j]?

theorem OwnI.nil (w : World) : OwnI w (.slice none 0 0) [] none := .inl ⟨rfl, rfl, rfl⟩

theorem OwnI.kept {w w' : World} {v : Value} {ts : List Fi} {r r' : Option Nat} (h : OwnI w v ts r) (k : w.grownBy w' r') (hne : r = none ∨ r ≠ r') : OwnI w' v ts r := by
  rcases h with h0 | ⟨g, cap, rfl, rfl, hg, h1, h2, h3, h4, h5⟩
  · exact .inl h0
  · have hb : w'.heap[g]? = w.heap[g]? := k.block g hg (by rcases hne with h | h <;> simp_all)
    refine .inr ⟨g, cap, rfl, rfl, Nat.lt_of_lt_of_le hg k.size, h1, h2, fun j hj => ?_, fun j hj => ?_, fun j hj => ?_⟩
    · rw [World.frozen?_of_block (w := w) (a := ⟨g, j, none⟩) hb]; exact h3 j hj
    · rw [World.cell?_of_block (w := w) (a := ⟨g, j, none⟩) hb]; exact h4 j hj
    · rw [World.cell?_of_block (w := w) (a := ⟨g, j, none⟩) hb]; exact h5 j hj
theorem OwnI.later {w w' : World} {v : Value} {ts : List Fi} {r : Option Nat} (h : OwnI w v ts r) (k : Below w.heap.size w w') : OwnI w' v ts r := by
  cases r with
  | none => exact h.kept (below_grow k none) (.inl rfl)
  | some g => exact h.kept (below_grow k none) (.inr (by simp))

theorem OwnI.lt {w : World} {v : Value} {ts : List Fi} {g : Nat} (h : OwnI w v ts (some g)) : g < w.heap.size := by
  rcases h with ⟨_, _, h⟩ | ⟨g', cap, e, _, hg, _⟩
  · simp at h
  · simp at e; omega

theorem OwnI.shape {w : World} {v : Value} {ts : List Fi} {r : Option Nat} (h : OwnI w v ts r) : ∃ a cap, v = .slice a ts.length cap ∧ cap ≤ maxLen ∧ ts.length ≤ cap := by
  rcases h with ⟨rfl, rfl, h⟩ | ⟨g', cap, e, rfl, hg, h1, h2, _⟩
  · exact ⟨none, 0, rfl, by simp, by simp⟩
  · exact ⟨_, cap, rfl, h2, h1⟩

theorem OwnI.at {w : World} {v : Value} {ts : List Fi} {g : Nat} (h : OwnI w v ts (some g)) {j : Nat} (hj : j < ts.length) : w.cell? ⟨g, j * 2, none⟩ = some (.string (ts.getD j Fi.none).name) ∧ w.cell? ⟨g, j * 2 + 1, none⟩ = some (ts.getD j Fi.none).data := by
  rcases h with ⟨_, _, h⟩ | ⟨g', cap, e, e2, hg, h1, h2, h3, h4, h5⟩
  · simp at h
  · simp at e; subst e
    have hc : ∀ i, i < 2 → w.cell? ⟨g, j * 2 + i, none⟩ = (ts.getD j Fi.none).cells[i]? := fun i hi => by rw [h5 _ (by omega)]; exact icells_get ts j i hj hi
    exact ⟨hc 0 (by decide), hc 1 (by decide)⟩

theorem zcellsI : Fi.none.agg.cells.size = 2 := by rfl

/-- WHAT append DOES of records. -/
theorem run_append_files (w : World) (ty : TypeId) (v x : Value) (ts : List Fi) (ks : List Fi) (r : Option Nat) (hown : OwnI w v ts r) (hs : Src Try.prog 2 33 x ks.length (icells ks) w) (hlen : ts.length + ks.length ≤ 2199023255552) (hr0 : r ≠ none ∨ 0 < ks.length) :
    ∃ v' w' g, (Builtin.append_ #[33, 33] ty #[v, x]).run Try.prog w = .ok v' w' ∧ OwnI w' v' (ts ++ ks) (some g) ∧ w.grownBy w' r ∧ (some g = r ∨ g = w.heap.size) := by
  obtain ⟨i, hi, hz0, hz1, hz2⟩ := info_parts infoFile
  have hs' : Src Try.prog i.size 33 x ks.length (icells ks) w := by rw [hz1]; exact hs
  have hl2 : (ts ++ ks).length = ts.length + ks.length := by simp
  have grow : ∀ (base : Option Addr) (sCap : Nat), (Builtin.firstCells i.size ts.length (.slice base ts.length sCap)).run Try.prog w.drew = .ok (icells ts).toArray w.drew → sCap < ts.length + ks.length →
      ∃ v' w' g, (Builtin.append_ #[33, 33] ty #[.slice base ts.length sCap, x]).run Try.prog w = .ok v' w' ∧ OwnI w' v' (ts ++ ks) (some g) ∧ w.grownBy w' r ∧ (some g = r ∨ g = w.heap.size) := by
    intro base sCap hold hg
    have hr := run_append_grow_src (P := Try.prog) w 33 33 ty 103 i _ Try.underlying33 hi hz0 base ts.length sCap (icells ts) hold x ks.length (icells ks) hs' hg (by omega) (by rw [hz2]; exact growslice_fits_wide hg (by omega))
    have hge := grownCap_ge w (ts.length + ks.length) sCap 103
    have hcm := grownCap_le_maxLen w (ts.length + ks.length) sCap 103 (by unfold maxLen; omega)
    refine ⟨_, _, w.heap.size, hr, ?_, ⟨rfl, rfl, rfl, by simp, fun k hk _ => Below.heap_alloc _ _ _ hk⟩, .inr rfl⟩
    obtain ⟨C, hC⟩ : ∃ C, (icells ts ++ (icells ks)).toArray ++ Builtin.zeroCells Fi.none.agg.cells (grownCap w (ts.length + ks.length) sCap 103 - (ts.length + ks.length)) = C := ⟨_, rfl⟩
    have hCs : C.size = 2 * grownCap w (ts.length + ks.length) sCap 103 := by
      rw [← hC, Array.size_append, List.size_toArray, size_zeroCells, zcellsI, List.length_append, icells_len, icells_len]
      omega
    have hCg : ∀ j, j < 2 * (ts.length + ks.length) → C[j]? = (icells (ts ++ ks))[j]? := fun j hj => by
      rw [← hC, Array.getElem?_append_left (by rw [List.size_toArray, List.length_append, icells_len, icells_len]; omega), List.getElem?_toArray, icells_app]
    rw [hC]
    refine .inr ⟨w.heap.size, grownCap w (ts.length + ks.length) sCap 103, rfl, by rw [hl2], by simp, by rw [hl2]; exact hge, hcm, fun j hj => ?_, fun j hj => ?_, fun j hj => ?_⟩
    · exact World.frozen?_alloc_at _ _ _ _ rfl
    · show ((w.drew.alloc (Obj.cells C 103)).cell? ⟨w.drew.heap.size, j, none⟩).isSome = true
      rw [World.cell?_alloc_at _ _ _ _ rfl, Array.getElem?_eq_getElem (by omega)]; rfl
    · rw [hl2] at hj
      show (w.drew.alloc (Obj.cells C 103)).cell? ⟨w.drew.heap.size, j, none⟩ = _
      rw [World.cell?_alloc_at _ _ _ _ rfl]; exact hCg j hj
  rcases hown with ⟨rfl, rfl, rfl⟩ | ⟨g, cap, rfl, rfl, hg, h1, h2, h3, h4, h5⟩
  · rcases hr0 with h | h
    · exact absurd rfl h
    · exact grow none 0 (by rw [List.length_nil]; exact run_firstCells_none w.drew _ _ _ _) (by simpa using h)
  · by_cases hroom : ts.length + ks.length ≤ cap
    · have hr := run_append_room_src (P := Try.prog) w 33 33 ty 103 i Try.underlying33 hi g 0 ts.length cap x ks.length (icells ks) hs' hroom
        (fun j hj => by rw [hz1]; rw [icells_len] at hj; exact h4 _ (by omega))
        (fun j hj => by rw [hz1]; rw [icells_len] at hj; exact h3 _ (by omega))
      rw [hz1, Nat.zero_add] at hr
      refine ⟨_, _, g, hr, .inr ⟨g, cap, rfl, by rw [hl2], ?_, by omega, h2, fun j hj => ?_, fun j hj => ?_, fun j hj => ?_⟩, grow_setCells w g _ _, .inl rfl⟩
      · rw [setCells_size]; exact hg
      · rw [World.frozen?_setCells]; exact h3 j hj
      · exact isSome_setCells g _ _ w _ (h4 j hj)
      · rw [hl2] at hj
        by_cases hj' : j < 2 * ts.length
        · rw [World.cell?_setCells_out g _ _ w _ (fun _ _ => .inl (by show j < ts.length * 2; omega)), h5 j hj', icells_app, List.getElem?_append_left (by rw [icells_len]; exact hj')]
        · have hj2 : j - 2 * ts.length < (icells ks).length := by rw [icells_len]; omega
          have := World.cell?_setCells_in g (icells ks) (ts.length * 2) w (fun m hm => h4 _ (by rw [icells_len] at hm; omega)) (j - 2 * ts.length) hj2
          rw [show ts.length * 2 + (j - 2 * ts.length) = j by omega] at this
          rw [this, icells_app, List.getElem?_append_right (by rw [icells_len]; omega), icells_len, List.getElem?_eq_getElem hj2]
    · refine grow _ cap ?_ (by omega)
      rw [hz1]
      refine run_firstCells_some w.drew 2 ts.length ⟨g, 0, none⟩ _ _ (icells ts) (by rw [icells_len]; omega) (fun j u hj => ?_)
      have hjl : j < 2 * ts.length := by
        have := (List.getElem?_eq_some_iff.mp hj).1
        rwa [icells_len] at this
      rw [WideShapes.add_plain, Nat.zero_add]
      show w.cell? ⟨g, j, none⟩ = some u
      rw [h5 j hjl, hj]

theorem wpList_append_files {ops : Array Oper} {rest : List Oper} {o : Oper} {a : Act} {Q : Exit → Act → World → Prop} (w : World) (hgd : o.guard = none) (s x : Operand)
    (ho : o.op = .call { callee := .builtin .append, args := #[s, x], argTypes := #[33, 33] }) (v xv : Value) (ts : List Fi) (ks : List Fi) (r : Option Nat)
    (hs : a.eval s = v) (hx : a.eval x = xv) (hown : OwnI w v ts r) (hsrc : Src Try.prog 2 33 xv ks.length (icells ks) w) (hlen : ts.length + ks.length ≤ 2199023255552) (hr0 : r ≠ none ∨ 0 < ks.length)
    (h : ∀ v' w' g, OwnI w' v' (ts ++ ks) (some g) → w.grownBy w' r → (some g = r ∨ g = w.heap.size) → wpList Try.prog ops Q rest (a.put o.dst v') w') : wpList Try.prog ops Q (o :: rest) a w :=
  wpList_plain hgd fun _ hK => by
    obtain ⟨v', w', g, hr, h1, h2, h3⟩ := run_append_files w o.type v xv ts ks r hown hsrc hlen hr0
    unfold Oper.wp execOp
    simp only [ho, resolve, invoke, builtin, Sem.run_bind, Sem.run_pure, Result.andThen_ok, List.map_toArray, List.map_cons, List.map_nil, hs, hx, hr]
    exact hK _ _ (h v' w' g h1 h2 h3)
end Go.Proofs.Ytgpmhflndcppeaa

/-! Images: the names in their order; a row of files of the call's own, each with bytes of its own. -/
namespace Go.Proofs.Ytgpmhflndcppeaa
open Go.RowKit Go.Maps Plain
set_option linter.unusedVariables false
set_option linter.unusedSimpArgs false

/-- Names in their order. -/
def srt (ss : List (List UInt8)) : List (List UInt8) := ss.mergeSort (fun x y => decide (x ≤ y))
theorem srt_pw (ss : List (List UInt8)) : (srt ss).Pairwise (· ≤ ·) := by
  have := List.pairwise_mergeSort (le := fun x y : List UInt8 => decide (x ≤ y)) (fun a b c h k => by simp only [decide_eq_true_eq] at *; exact List.le_trans h k)
    (fun a b => by rw [Bool.or_eq_true, decide_eq_true_eq, decide_eq_true_eq]; exact List.le_total a b) ss
  exact this.imp (fun h => by simpa using h)
theorem srt_perm (ss : List (List UInt8)) : (srt ss).Perm ss := List.mergeSort_perm _ _
theorem srt_of {ss ts : List (List UInt8)} (h : ts.Perm ss) (hp : ts.Pairwise (· ≤ ·)) : srt ss = ts :=
  List.Perm.eq_of_pairwise (fun a b _ _ h k => List.le_antisymm h k) (srt_pw ss) hp ((srt_perm ss).trans h.symm)
theorem srt_eq {ss ts : List (List UInt8)} (h : ss.Perm ts) : srt ss = srt ts := srt_of ((srt_perm ts).trans h.symm) (srt_pw ts)
/-- The names of a directory, rising. -/
def nms (L : Dir) : List (List UInt8) := srt (L.map (·.1))
theorem nms_len (L : Dir) : (nms L).length = L.length := by rw [nms, (srt_perm _).length_eq, List.length_map]
theorem nms_mem {L : Dir} {k : List UInt8} : k ∈ nms L ↔ k ∈ L.map (·.1) := (srt_perm _).mem_iff

/-- v is a row of files of the call's own, which reads as im; its block and its files' blocks are new, and all apart. -/
structure ImgM (w : World) (v : Value) (im : List (List UInt8 × List Nat)) (base : Nat) (ts : List Fi) (r : Option Nat) (blk : Nat → Option Nat) : Prop where
  row : OwnI w v ts r
  len : ts.length = im.length
  one : ∀ j p, im[j]? = some p → ∃ dv, ts[j]? = some ⟨str p.1, dv⟩ ∧ Own w dv p.2 (blk j)
  rbase : ∀ g, r = some g → base ≤ g
  bbase : ∀ j g, blk j = some g → base ≤ g ∧ r ≠ some g
  out : ∀ j, im.length ≤ j → blk j = none
  apart : ∀ i j g, blk i = some g → blk j = some g → i = j
def ImgAt (w : World) (v : Value) (im : List (List UInt8 × List Nat)) (base : Nat) : Prop := ∃ ts r blk, ImgM w v im base ts r blk

theorem ImgM.live {w : World} {v : Value} {im : List (List UInt8 × List Nat)} {base : Nat} {ts : List Fi} {r : Option Nat} {blk : Nat → Option Nat} (h : ImgM w v im base ts r blk) {j g : Nat} (e : blk j = some g) : g < w.heap.size := by
  by_cases hj : j < im.length
  · obtain ⟨dv, _, ho⟩ := h.one j _ (List.getElem?_eq_getElem hj)
    rw [e] at ho
    exact ho.lt
  · rw [h.out j (by omega)] at e
    simp at e
theorem ImgM.frame {w w' : World} {v : Value} {im : List (List UInt8 × List Nat)} {base : Nat} {ts : List Fi} {r r' : Option Nat} {blk : Nat → Option Nat} (h : ImgM w v im base ts r blk) (k : w.grownBy w' r') (h1 : ∀ g, r' = some g → g < base) : ImgM w' v im base ts r blk := by
  refine ⟨h.row.kept k ?_, h.len, fun j p hp => ?_, h.rbase, h.bbase, h.out, h.apart⟩
  · cases r with
    | none => exact .inl rfl
    | some g => exact .inr (fun e => by have := h.rbase g rfl; have := h1 g e.symm; omega)
  · obtain ⟨dv, h2, h3⟩ := h.one j p hp
    refine ⟨dv, h2, h3.kept k ?_⟩
    cases hb : blk j with
    | none => exact .inl rfl
    | some g => exact .inr (fun e => by have := (h.bbase j g hb).1; have := h1 g e.symm; omega)
theorem ImgM.later {w w' : World} {v : Value} {im : List (List UInt8 × List Nat)} {base : Nat} {ts : List Fi} {r : Option Nat} {blk : Nat → Option Nat} (h : ImgM w v im base ts r blk) (k : Below w.heap.size w w') : ImgM w' v im base ts r blk := h.frame (below_grow k none) (by simp)
theorem ImgAt.frame {w w' : World} {v : Value} {im : List (List UInt8 × List Nat)} {base : Nat} {r' : Option Nat} (h : ImgAt w v im base) (k : w.grownBy w' r') (h1 : ∀ g, r' = some g → g < base) : ImgAt w' v im base := by
  obtain ⟨ts, r, blk, hm⟩ := h
  exact ⟨ts, r, blk, hm.frame k h1⟩
theorem ImgAt.later {w w' : World} {v : Value} {im : List (List UInt8 × List Nat)} {base : Nat} (h : ImgAt w v im base) (k : Below w.heap.size w w') : ImgAt w' v im base := h.frame (below_grow k none) (by simp)

/-- One file more: the row behind the append, which has left the files' bytes alone. -/
theorem ImgM.push {w w' : World} {v v' dv : Value} {im : List (List UInt8 × List Nat)} {base : Nat} {ts : List Fi} {r q : Option Nat} {blk : Nat → Option Nat} {k : List UInt8} {l : List Nat} {g' : Nat}
    (h : ImgM w v im base ts r blk) (ho : Own w dv l q) (hq : ∀ g, q = some g → base ≤ g ∧ r ≠ some g ∧ ∀ j, blk j ≠ some g)
    (hr : OwnI w' v' (ts ++ [⟨str k, dv⟩]) (some g')) (hg : w.grownBy w' r) (hg' : some g' = r ∨ g' = w.heap.size) (hbase : base ≤ w.heap.size) :
    ImgM w' v' (im ++ [(k, l)]) base (ts ++ [⟨str k, dv⟩]) (some g') (fun j => if j = im.length then q else blk j) := by
  have hlive : ∀ g, q = some g → g < w.heap.size := fun g e => by rw [e] at ho; exact ho.lt
  refine ⟨hr, by simp [h.len], fun j p hp => ?_, fun g e => ?_, fun j g e => ?_, fun j hj => ?_, fun i j g h1 h2 => ?_⟩
  · by_cases hj : j < im.length
    · rw [List.getElem?_append_left hj] at hp
      obtain ⟨d0, h2, h3⟩ := h.one j p hp
      refine ⟨d0, by rw [List.getElem?_append_left (by rw [h.len]; exact hj)]; exact h2, ?_⟩
      simp only [Nat.ne_of_lt hj, if_false]
      refine h3.kept hg ?_
      cases hb : blk j with
      | none => exact .inl rfl
      | some g => exact .inr (fun e => (h.bbase j g hb).2 e.symm)
    · rw [List.getElem?_append_right (by omega)] at hp
      have hj2 : j = im.length := by
        have := (List.getElem?_eq_some_iff.mp hp).1
        simp at this; omega
      subst hj2
      simp at hp
      subst hp
      refine ⟨dv, by rw [List.getElem?_append_right (by rw [h.len]; exact Nat.le_refl _), h.len]; simp, ?_⟩
      simp only [if_true]
      refine ho.kept hg ?_
      cases hb : q with
      | none => exact .inl rfl
      | some g => exact .inr (fun e => (hq g hb).2.1 e.symm)
  · simp at e
    subst e
    rcases hg' with e | e
    · exact h.rbase _ e.symm
    · omega
  · have hne : ∀ g, (base ≤ g ∧ r ≠ some g) → g < w.heap.size → base ≤ g ∧ some g' ≠ some g := fun g h1 h2 => ⟨h1.1, fun e => by
      simp at e
      subst e
      rcases hg' with e | e
      · exact h1.2 e.symm
      · omega⟩
    split at e
    · exact hne g ⟨(hq g e).1, (hq g e).2.1⟩ (hlive g e)
    · exact hne g (h.bbase j g e) (h.live e)
  · simp at hj
    simp only [show j ≠ im.length by omega, if_false]
    exact h.out j (by omega)
  · split at h1
    · rename_i e1
      split at h2
      · rename_i e2; omega
      · exact absurd h2 ((hq g h1).2.2 j)
    · split at h2
      · exact absurd h1 ((hq g h2).2.2 i)
      · exact h.apart i j g h1 h2
end Go.Proofs.Ytgpmhflndcppeaa

/-! Create. -/
namespace Go.Proofs.Ytgpmhflndcppeaa
open Go.RowKit Go.Maps Plain
set_option linter.unusedVariables false
set_option linter.unusedSimpArgs false

theorem lenO (w : World) (m : Option Nat) (L : Dir) (h : MapO w m L) (ty : TypeId) : (Builtin.len_ #[59] ty #[.map m]).run Try.prog w = .ok (.int .i64 (L.length : Int)) w := by
  rcases h with ⟨rfl, rfl⟩ | ⟨b, rfl, h⟩
  · exact Maps.len_nil Try.underlying59 ty
  · have := World.ownsMap.len h Try.underlying59 ty
    rw [toD_size] at this
    exact this

def createK (k : Dk) (s : ByteArray) (G : Nat) : Int × Dk := if rdy k.dead [s] ≠ 0 then (rdy k.dead [s], k) else if (look k.L s.data.toList).isSome then (32, k) else if 65536 ≤ k.L.length then (35, k) else if k.can then (0, (k.spent.addFile G).did (DC.mk s.data.toList G)) else (34, k.spent)

set_option maxHeartbeats 2000000 in
set_option maxRecDepth 1000000 in
theorem createOf (d : Nat) (k : Dk) (n : Nat) (S : Nat → Prop) (s : ByteArray) (hs : s.size ≤ maxLen) (w : World) (h : DiskAt w d k S) (hk : k.Dok n) (hn : n ≤ 4398046511103) : Calls Try.prog 12 #[.pointer (some ⟨d, 0, none⟩), .string s] w fun e w' => ∃ G, w.heap.size ≤ G ∧ OpPost d (createK k s G) S w e w' := by
  have HB1 : Hid (Below w.heap.size w (w.alloc (.cells #[.string s] 9))) := (Below.refl _ _).alloc (Nat.le_refl _) _
  have HS : Hid (St S w d k (w.alloc (.cells #[.string s] 9))) := (St.start h).below HB1.out
  obtain ⟨ms, md, vc, rc, Sf, hm⟩ := HS.out.at
  have HR : Hid (Calls Try.prog 35 #[.pointer (some ⟨d, 0, none⟩), .slice (some ⟨w.heap.size, 0, none⟩) 1 1] (w.alloc (.cells #[.string s] 9)) fun e w' => e = .returned (.int .i64 (rdy k.dead [s])) ∧ w' = w.alloc (.cells #[.string s] 9)) := readyOf d k.dead [s] _ _ hm.at0.2 (StrsAt.one w s 9 hs)
  have HSP : Hid (Calls Try.prog 36 #[.pointer (some ⟨d, 0, none⟩)] (w.alloc (.cells #[.string s] 9)) fun e w' => e = .returned (.bool k.can) ∧ St (Ext S w (w.alloc (.cells #[.string s] 9))) (w.alloc (.cells #[.string s] 9)) d k.spent w') := spendSt d k _ _ HS.out.1 hk.ok.ops.1 (by have := hk.ok.ops.2; omega) hk.ok.fuse
  have hlk := lookO (w.alloc (.cells #[.string s] 9)) ms k.L hm.seen s hs
  have hle := fun ty => lenO (w.alloc (.cells #[.string s] 9)) ms k.L hm.seen ty
  have c0 := hm.at0.1
  have HK : Hid (k.Dok n) := hk
  have hlen := hk.few
  clear hm h hk
  by_cases h0 : rdy k.dead [s] = 0
  · rw [h0] at HR
    cases hl : look k.L s.data.toList with
    | some g =>
      have HE : Hid (createK k s w.heap.size = (32, k)) := by unfold Hid createK; rw [h0, hl]; rfl
      rw [hl] at hlk
      simp only [ptrO, Option.elim] at hlk
      clear hl h0
      go_enter Try.func12, Try.ntmps12
      go_wp2_with fail
      refine HR.out.mono ?_
      rintro e w1 ⟨rfl, rfl⟩
      go_wp2
      go_ret
      exact ⟨w.heap.size, Nat.le_refl _, by rw [HE.out]; exact ⟨rfl, HS.out⟩⟩
    | none =>
      rw [hl] at hlk
      simp only [ptrO, Option.elim] at hlk
      obtain ⟨N, hN⟩ : ∃ N, k.L.length = N := ⟨_, rfl⟩
      rw [hN] at hle hlen
      have HN : Hid (k.L.length = N) := hN
      by_cases hf : 65536 ≤ N
      · have HE : Hid (createK k s w.heap.size = (35, k)) := by unfold Hid createK; rw [h0, hl, if_neg (by simp), if_neg (by simp), hN, if_pos hf]
        obtain rfl : N = 65536 := by omega
        clear hl h0 hN hf hlen HN
        go_enter Try.func12, Try.ntmps12
        go_wp2_with fail
        refine HR.out.mono ?_
        rintro e w1 ⟨rfl, rfl⟩
        go_wp2
        go_ret
        exact ⟨w.heap.size, Nat.le_refl _, by rw [HE.out]; exact ⟨rfl, HS.out⟩⟩
      · have HCR : Hid (∀ G, createK k s G = if k.can then (0, (k.spent.addFile G).did (DC.mk s.data.toList G)) else (34, k.spent)) := fun G => by unfold createK; rw [h0, hl, if_neg (by simp), if_neg (by simp), hN, if_neg hf]
        have hf2 : N < 65536 := by omega
        clear h0 hN hf hlen
        cases hc : k.can with
        | false =>
          rw [hc] at HSP HCR
          clear hl hc
          go_enter Try.func12, Try.ntmps12
          go_wp2_with fail
          refine HR.out.mono ?_
          rintro e w1 ⟨rfl, rfl⟩
          go_wp2_with fail
          refine HSP.out.mono ?_
          rintro e w2 ⟨rfl, hs2⟩
          have HS2 : Hid (St S w d k.spent w2) := HS.out.next hs2
          clear hs2
          go_wp2
          go_ret
          exact ⟨w.heap.size, Nat.le_refl _, by rw [HCR.out]; exact ⟨rfl, HS2.out⟩⟩
        | true =>
          rw [hc] at HSP HCR
          clear hl hc
          go_enter Try.func12, Try.ntmps12
          go_wp2_with fail
          refine HR.out.mono ?_
          rintro e w1 ⟨rfl, rfl⟩
          go_wp2_with fail
          refine HSP.out.mono ?_
          rintro e w2 ⟨rfl, hs2⟩
          have HS2 : Hid (St S w d k.spent w2) := HS.out.next hs2
          clear hs2
          have HS3 : Hid (St S w d (k.spent.addFile w2.heap.size) (w2.alloc emptyF)) := addFileSt HS2.out
          have HDO : Hid (Calls Try.prog 37 #[.pointer (some ⟨d, 0, none⟩), .iface 94 (.agg #[.string s, .pointer (some ⟨w2.heap.size, 0, none⟩)])] (w2.alloc emptyF) fun e w' => e = .returned (.tuple #[]) ∧ St (Ext S w (w2.alloc emptyF)) (w2.alloc emptyF) d ((k.spent.addFile w2.heap.size).did (DC.mk s.data.toList w2.heap.size)) w') := by
            have := doDOf (w2.alloc emptyF) d (k.spent.addFile w2.heap.size) _ (DC.mk s.data.toList w2.heap.size) HS3.out.1 (by show s.data.toList.length ≤ maxLen; rw [Array.length_toList]; exact hs) (by show k.L.length < _; have := HN.out; omega) (by show k.chg.length ≤ _; have := HK.out.cnt; omega)
            rw [DC.val_mk, str_of] at this
            exact this
          go_wp2_with fail
          refine HDO.out.mono ?_
          rintro e w3 ⟨rfl, hs3⟩
          have HS4 : Hid (St S w d ((k.spent.addFile w2.heap.size).did (DC.mk s.data.toList w2.heap.size)) w3) := HS3.out.next hs3
          have HSZ : Hid (w.heap.size ≤ w2.heap.size) := HS2.out.2.size
          clear hs3
          go_wp2
          go_ret
          exact ⟨w2.heap.size, HSZ.out, by rw [HCR.out]; exact ⟨rfl, HS4.out⟩⟩
  · have HE : Hid (createK k s w.heap.size = (rdy k.dead [s], k)) := by unfold Hid createK; rw [if_pos h0]
    obtain ⟨z, hz⟩ : ∃ z, rdy k.dead [s] = z := ⟨_, rfl⟩
    rw [hz] at HR h0 HE
    have hne : (z != 0) = true := by simpa using h0
    have hne2 : (z == 0) = false := beq_eq_false_iff_ne.mpr h0
    clear hz h0
    go_enter Try.func12, Try.ntmps12
    go_wp2_with fail
    refine HR.out.mono ?_
    rintro e w1 ⟨rfl, rfl⟩
    go_wp2
    go_ret
    exact ⟨w.heap.size, Nat.le_refl _, by rw [HE.out]; exact ⟨rfl, HS.out⟩⟩
end Go.Proofs.Ytgpmhflndcppeaa
