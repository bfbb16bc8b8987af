import Derived.Test.YthcnhjmkcekdaaaGreatQs11
import Derived.Test.YthcnhjmkcekdaaaGreatQs12
import Derived.Test.YthcnhjmkcekdaaaGreatQs06
namespace Go.Proofs.YthcnhjmkcekdaaaGreat
open Go.RowKit Go.Maps Go.Sort Go.WideMaps Plain
set_option linter.unusedVariables false
set_option linter.unusedSimpArgs false
theorem OwnI.of_made {w : World} {base g cap : Nat} (h : w.ownsRow base 46 2 (.slice (some ⟨g, 0, none⟩) 0 cap) 0 []) : OwnI w (.slice (some ⟨g, 0, none⟩) 0 cap) [] (some g) := by
  obtain ⟨_, h | ⟨g', cap', cur, e, hb, hh, h1, h2, h3, h4⟩⟩ := h
  · simp at h
  · simp only [Value.slice.injEq, Option.some.injEq, Addr.mk.injEq, and_true, true_and] at e
    obtain ⟨rfl, rfl⟩ := e
    refine .inr ⟨g, cap, rfl, rfl, (Array.getElem?_eq_some_iff.1 hh).1, by simp, h2, fun j hj => ?_, fun j hj => ?_, fun j hj => by simp at hj⟩
    · simp [World.frozen?, hh]
    · simp [World.cell?, hh]; omega
theorem OwnV.of_row {w : World} {base n : Nat} {e : TypeId} {v : Value} {xs : List Value} (h : w.ownsRow base e 1 v n xs) : ∃ r, OwnV w v xs r ∧ ∀ g, r = some g → base ≤ g := by
  obtain ⟨hl, ⟨rfl, rfl⟩ | ⟨g, cap, cur, rfl, hb, hh, h1, h2, h3, h4⟩⟩ := h
  · have : xs = [] := List.eq_nil_of_length_eq_zero (by omega)
    subst this
    exact ⟨none, OwnV.nil w, by simp⟩
  · rw [Nat.mul_one] at hl h3 h4
    subst hl
    refine ⟨some g, .inr ⟨g, cap, rfl, rfl, (Array.getElem?_eq_some_iff.1 hh).1, h1, h2, fun j hj => ?_, fun j hj => ?_, fun j hj => ?_⟩, fun g' e => by simp at e; omega⟩
    · simp [World.frozen?, hh]
    · simp [World.cell?, hh]; omega
    · rw [← h4, List.getElem?_take_of_lt hj]
      simp [World.cell?, hh]
theorem src_file (W : World) (n : ByteArray) (a : Option Addr) (l c : Nat) : Src Tryz.prog 2 40 (.slice (some ⟨W.heap.size, 0, none⟩) 1 1) [(⟨n, .slice a l c⟩ : Fi)].length (icells [⟨n, .slice a l c⟩]) (W.alloc (.cells #[.string n, .slice a l c] 46)) :=
  Src.ofSlice _ Tryz.underlying40 _ 1 1 _ (by rfl) (fun j u hj => by
    rw [WideShapes.add_plain, World.cell?_alloc_at _ _ _ _ rfl, Nat.zero_add, ← hj]
    simp [icells, Fi.cells]) (by intro u hu; simp [icells, Fi.cells] at hu; rcases hu with rfl | rfl <;> rfl)
/-- The file that a name leads to. -/
def fileOf (L : Dir) (k : Nm) : Nat := (look L k).getD 0
/-- The state behind some names. -/
def stAt {σ : Type} (L : Dir) (nx : σ → Nat → σ) (s : σ) (ks : List Nm) : σ := ks.foldl (fun s k => nx s (fileOf L k)) s
def imgL {σ : Type} (L : Dir) (B : σ → Nat → List Nat) (nx : σ → Nat → σ) : σ → List Nm → List (Nm × List Nat)
  | _, [] => []
  | s, k :: ks => (k, B s (fileOf L k)) :: imgL L B nx (nx s (fileOf L k)) ks
theorem imgL_snoc {σ : Type} (L : Dir) (B : σ → Nat → List Nat) (nx : σ → Nat → σ) (k : Nm) : ∀ (ks : List Nm) (s : σ), imgL L B nx s (ks ++ [k]) = imgL L B nx s ks ++ [(k, B (stAt L nx s ks) (fileOf L k))]
  | [], s => rfl
  | x :: ks, s => by
    have := imgL_snoc L B nx k ks (nx s (fileOf L x))
    simp only [List.cons_append, imgL, this]
    rfl
theorem stAt_snoc {σ : Type} (L : Dir) (nx : σ → Nat → σ) (s : σ) (ks : List Nm) (k : Nm) : stAt L nx s (ks ++ [k]) = nx (stAt L nx s ks) (fileOf L k) := by simp [stAt]
theorem imgL_len {σ : Type} (L : Dir) (B : σ → Nat → List Nat) (nx : σ → Nat → σ) : ∀ (ks : List Nm) (s : σ), (imgL L B nx s ks).length = ks.length
  | [], s => rfl
  | x :: ks, s => by simp [imgL, imgL_len L B nx ks]
theorem look_some {L : Dir} {k : Nm} (h : k ∈ L.map (·.1)) : ∃ g, look L k = some g := by
  unfold look
  cases e : L.find? (fun p => p.1 == k) with
  | some p => exact ⟨p.2, rfl⟩
  | none =>
    obtain ⟨p, hp, rfl⟩ := List.mem_map.mp h
    have := List.find?_eq_none.mp e p hp
    simp at this
/-- What the function answers that is asked of a file. -/
def FnPost {σ : Type} (J : σ → World → Prop) (b : List Nat) (s' : σ) (r0 : Option Nat) (w1 : World) (e : Ending) (w2 : World) : Prop :=
  ∃ a n c q, e = .returned (.slice a n c) ∧ Own w2 (.slice a n c) b q ∧ (∀ g, q = some g → w1.heap.size ≤ g) ∧ J s' w2 ∧ w1.grownBy w2 r0
def ImgPost {σ : Type} (J : σ → World → Prop) (im : List (Nm × List Nat)) (s' : σ) (r0 : Option Nat) (w : World) (e : Ending) (w' : World) : Prop :=
  ∃ v, e = .returned v ∧ ImgAt w' v im w.heap.size ∧ J s' w' ∧ w.grownBy w' r0
set_option maxRecDepth 1000000 in
theorem name_size {L : Dir} {w : World} {m : Option Nat} (h : MapO w m L) {k : Nm} (hk : k ∈ L.map (·.1)) : (str k).size ≤ maxLen := by
  rcases h with ⟨rfl, rfl⟩ | ⟨b, rfl, h⟩
  · simp at hk
  · obtain ⟨p, hp, rfl⟩ := List.mem_map.mp hk
    obtain ⟨es, clock, _, F, _, hD⟩ := h
    unfold toD at hD
    injection hD with hD
    have hin : dent p ∈ L.map dent := List.mem_map.mpr ⟨p, hp, rfl⟩
    rw [hD] at hin
    obtain ⟨x, hx, e⟩ := List.mem_map.1 (mem_sorted.1 hin)
    obtain ⟨y, hy⟩ := F.reads x hx
    rw [WideElems.rg_of hy] at e
    obtain ⟨s, _, h2, h3⟩ := Go.WideMaps.string_of_keyOf Tryz.underlying9 (WideElems.rd_key hy)
    rw [e] at h2
    have h4 : p.1 = s.data.toList := by
      have : Lit.string p.1 = .string s.data.toList := h2
      injection this
    rw [h4, str_of]
    exact h3
set_option maxHeartbeats 4000000 in
set_option maxRecDepth 1000000 in
theorem imageOfOf {σ : Type} (w : World) (m : Option Nat) (L : Dir) (N : Nat) (cap : Value) (r0 : Option Nat) (J : σ → World → Prop) (B : σ → Nat → List Nat) (nx : σ → Nat → σ) (s : σ)
    (h : MapO w m L) (hmax : L.length ≤ 2199023255000) (hJ : J s w) (hr0 : ∀ g, r0 = some g → g < w.heap.size ∧ m ≠ some g)
    (hJl : ∀ s w1 w2, J s w1 → Below w.heap.size w1 w2 → J s w2)
    (hcf : ∀ (a : Value) (W : World), (callFunc N #[a, cap]).run Tryz.prog W = .ok (.enter N #[a, cap]) W)
    (hfn : ∀ s w1 k G, J s w1 → w.grownBy w1 r0 → look L k = some G → Calls Tryz.prog N #[.pointer (some ⟨G, 0, none⟩), cap] w1 (FnPost J (B s G) (nx s G) r0 w1)) :
    Calls Tryz.prog 69 #[.map m, .func (.func N) #[] #[cap]] w (ImgPost J (imgL L B nx s (nms L)) (stAt L nx s (nms L)) r0 w) := by
  have HM : Hid (MapO w m L) := h
  have HJ : Hid (J s w) := hJ
  have HJL : Hid (∀ s w1 w2, J s w1 → Below w.heap.size w1 w2 → J s w2) := hJl
  have HFN : Hid (∀ s w1 k G, J s w1 → w.grownBy w1 r0 → look L k = some G → Calls Tryz.prog N #[.pointer (some ⟨G, 0, none⟩), cap] w1 (FnPost J (B s G) (nx s G) r0 w1)) := hfn
  have HR0 : Hid (∀ g, r0 = some g → g < w.heap.size ∧ m ≠ some g) := hr0
  have hlen := lenO w m L h
  obtain ⟨i, hi, hz0, hz1, hz2⟩ := info_parts infoFile
  have HI : Hid (Tryz.prog.info? 46 = some i ∧ i.zero = some Fi.none.agg ∧ i.size = 2 ∧ i.bytes = 40) := ⟨hi, hz0, hz1, hz2⟩
  have HRI : Hid (∀ w1 : World, Below w.heap.size w w1 → Calls Tryz.prog 83 #[.map m] w1 fun e w2 => ∃ a c r, e = .returned (.slice a (nms L).length c) ∧ (nms L).length ≤ c ∧ c ≤ 2 ^ 63 - 1 ∧ OwnV w2 (.slice a (nms L).length c) ((nms L).map encStr) r ∧ (∀ g, r = some g → w1.heap.size ≤ g) ∧ Below w1.heap.size w1 w2) := fun w1 hb => by
    rcases h with ⟨rfl, rfl⟩ | ⟨b, rfl, h⟩
    · refine (risingNil w1).mono ?_
      rintro e w2 ⟨rfl, h2⟩
      have e0 : nms [] = [] := by simp [nms, srt]
      rw [e0]
      exact ⟨none, 0, none, rfl, by simp, by simp, OwnV.nil _, by simp, h2⟩
    · refine (risingAt b L w1 (h.of_block (hb.block b h.lt)) (by omega)).mono ?_
      rintro e w2 ⟨v, ss, rfl, hp, hrow, _, h2⟩
      have hs : ss.mergeSort (fun x y => decide (x ≤ y)) = nms L := srt_eq hp
      rw [hs] at hrow
      obtain ⟨r, h3, h4⟩ := OwnV.of_row hrow
      obtain ⟨a, c, rfl, h5, h6⟩ := h3.shape
      rw [List.length_map] at h3 h6
      unfold maxLen at h5
      exact ⟨a, c, r, by rw [List.length_map], h6, by omega, h3, h4, h2⟩
  have hnl := nms_len L
  clear h hJ hJl hfn hr0 hi hz0 hz1 hz2
  go_enter Tryz.func69, Tryz.ntmps69
  go_wp2_with (at_make; refine wpList_make_own _ rfl _ _ 40 rfl 0 46 i _ 2 Tryz.underlying40 HI.out.1 HI.out.2.1 HI.out.2.2.1 .i64 .i64 _ L.length rfl rfl rfl (by rw [HI.out.2.2.2]; omega) (by unfold maxLen; omega) (Nat.zero_le _) ?_; intro w1 hor1 hg1)
  have HO1 : Hid (OwnI w1 (.slice (some ⟨w.heap.size, 0, none⟩) 0 L.length) [] (some w.heap.size)) := OwnI.of_made hor1
  have HB1 : Hid (Below w.heap.size w w1) := grow_below hg1 (Nat.le_refl _) (by simp)
  have hs1 : w.heap.size < w1.heap.size := HO1.out.lt
  clear hor1 hg1
  go_wp2_with fail
  refine (HRI.out w1 HB1.out).mono ?_
  rintro e w2 ⟨an, cn, rn, rfl, q1, q2, hon, hrn, hb2⟩
  have HON : Hid (OwnV w2 (.slice an (nms L).length cn) ((nms L).map encStr) rn ∧ ∀ g, rn = some g → w1.heap.size ≤ g) := ⟨hon, hrn⟩
  have HI0 : Hid (ImgM w2 (.slice (some ⟨w.heap.size, 0, none⟩) 0 L.length) [] w.heap.size [] (some w.heap.size) (fun _ => none)) := ⟨HO1.out.later hb2, rfl, by simp, by simp, by simp, by simp, by simp⟩
  have HB2 : Hid (Below w.heap.size w w2) := HB1.out.trans (hb2.mono (Nat.le_of_lt hs1))
  clear hon hrn hb2 HO1 hlen
  go_wp2
  go_loopg [5, 14] (nms L).length (fun gk s5 s14 wx => ∃ (k : Nat) (a5 : Option Addr) (n5 c5 : Nat), k + gk = (nms L).length ∧ s14 = .int .i64 k ∧ s5 = .slice a5 n5 c5 ∧ Hid (∃ ts r blk, ImgM wx (.slice a5 n5 c5) (imgL L B nx s ((nms L).take k)) w.heap.size ts r blk ∧ J (stAt L nx s ((nms L).take k)) wx ∧ w.grownBy wx r0 ∧ OwnV wx (.slice an (nms L).length cn) ((nms L).map encStr) rn ∧ (∀ g, rn = some g → r ≠ some g ∧ ∀ j, blk j ≠ some g) ∧ r ≠ none))
  case atStart =>
    refine ⟨0, _, _, _, by omega, rfl, rfl, [], some w.heap.size, fun _ => none, HI0.out, HJL.out _ _ _ HJ.out (HB2.out), below_grow HB2.out _, HON.out.1, fun g e => ⟨?_, by simp⟩, by simp⟩
    have := HON.out.2 g e
    simp; omega
  case round =>
    obtain ⟨k, a5, n5, c5, hkg, rfl, rfl, HV⟩ := hrel
    cases gk with
    | zero =>
      obtain rfl : k = (nms L).length := by omega
      have HP : Hid (ImgPost J (imgL L B nx s (nms L)) (stAt L nx s (nms L)) r0 w (.returned (.slice a5 n5 c5)) wr) := by
        obtain ⟨ts, r, blk, h1, h2, h3, h4, h5, h6⟩ := HV.out
        rw [List.take_length] at h1 h2
        exact ⟨_, rfl, ⟨ts, r, blk, h1⟩, h2, h3⟩
      go_wp2
      go_ret
      exact HP.out
    | succ gk1 =>
      have hk : k < (nms L).length := by omega
      obtain ⟨nm, hnm⟩ : ∃ nm, (nms L)[k]? = some nm := ⟨_, List.getElem?_eq_getElem hk⟩
      obtain ⟨ts, r, blk, h1, h2, h3, h4, h5, h6⟩ := HV.out
      obtain ⟨gn, hgn, rfl, hcell⟩ := h4.get (j := k) (u := encStr nm) (by rw [List.getElem?_map, hnm]; rfl)
      have hmem : nm ∈ L.map (·.1) := nms_mem.mp (List.mem_of_getElem? hnm)
      obtain ⟨G, hG⟩ := look_some hmem
      have hMr : MapO wr m L := HM.out.of_block (fun b e => h3.block b (by have := HM.out; rw [e] at this; exact this.lt) (fun e2 => (HR0.out b e2.symm).2 e))
      have hsz := name_size HM.out hmem
      have hlk : (Instr.lookup 65 (.map m) (.string (str nm)) false).run Tryz.prog wr = .ok (.pointer (some ⟨G, 0, none⟩)) wr := by
        rw [lookO wr m L hMr (str nm) hsz, str_list, hG]; rfl
      have HFC : Hid (Calls Tryz.prog N #[.pointer (some ⟨G, 0, none⟩), cap] wr (FnPost J (B (stAt L nx s ((nms L).take k)) G) (nx (stAt L nx s ((nms L).take k)) G) r0 wr)) := HFN.out _ wr nm G h2 h3 hG
      have HTK : Hid ((nms L).take (k + 1) = (nms L).take k ++ [nm]) := by
        unfold Hid
        obtain ⟨hk', e⟩ := List.getElem?_eq_some_iff.mp hnm
        rw [List.take_succ_eq_append_getElem hk', e]
      have HGF : Hid (fileOf L nm = G) := by unfold Hid fileOf; rw [hG]; rfl
      have HCUR : Hid (ImgM wr (.slice a5 n5 c5) (imgL L B nx s ((nms L).take k)) w.heap.size ts r blk ∧ w.grownBy wr r0 ∧ OwnV wr (.slice (some ⟨gn, 0, none⟩) (nms L).length cn) ((nms L).map encStr) rn ∧ (∀ g, rn = some g → r ≠ some g ∧ ∀ j, blk j ≠ some g) ∧ r ≠ none) := ⟨h1, h3, h4, h5, h6⟩
      have hcell' : wr.cell? ⟨gn, k, none⟩ = some (.string (str nm)) := hcell
      have hwr := h3.size
      clear h1 h2 h3 h4 h5 h6 hcell hMr hG hmem hnm HV
      go_wp2_with fail
      refine HFC.out.mono ?_
      rintro e w3 ⟨a3, n3, c3, q3, rfl, ho3, hq3, hj3, hg3⟩
      have H3 : Hid (Own w3 (.slice a3 n3 c3) (B (stAt L nx s ((nms L).take k)) G) q3 ∧ (∀ g, q3 = some g → wr.heap.size ≤ g) ∧ J (nx (stAt L nx s ((nms L).take k)) G) w3 ∧ wr.grownBy w3 r0) := ⟨ho3, hq3, hj3, hg3⟩
      have hw3 := hg3.size
      clear ho3 hq3 hj3 hg3 hlk
      go_wp2_with (at_builtin; refine wpList_append_files _ rfl _ _ rfl _ _ ts [⟨str nm, .slice a3 n3 c3⟩] r rfl rfl ?hOwn ?hSrc ?hLen ?hR ?_)
      case hOwn => exact (HCUR.out.1.frame H3.out.2.2.2 (fun g e => (HR0.out g e).1)).row.later ((Below.refl _ _).alloc (Nat.le_refl _) _)
      case hSrc => exact src_file w3 (str nm) a3 n3 c3
      case hLen =>
        have h1 := HCUR.out.1.len
        rw [imgL_len, List.length_take] at h1
        simp
        omega
      case hR => exact .inr (by simp)
      intro v4 w4 g4 ho4 hg4 hr4
      obtain ⟨a4, c4, rfl, -, -⟩ := ho4.shape
      have HN : Hid (∃ ts' r' blk', ImgM w4 (.slice a4 (ts ++ [(⟨str nm, .slice a3 n3 c3⟩ : Fi)]).length c4) (imgL L B nx s ((nms L).take (k + 1))) w.heap.size ts' r' blk' ∧ J (stAt L nx s ((nms L).take (k + 1))) w4 ∧ w.grownBy w4 r0 ∧ OwnV w4 (.slice (some ⟨gn, 0, none⟩) (nms L).length cn) ((nms L).map encStr) rn ∧ (∀ g, rn = some g → r' ≠ some g ∧ ∀ j, blk' j ≠ some g) ∧ r' ≠ none) := by
        obtain ⟨c1, c2, c3', c4', c5'⟩ := HCUR.out
        obtain ⟨d1, d2, d3, d4⟩ := H3.out
        have hb34 : Below w3.heap.size w3 (w3.alloc (.cells #[.string (str nm), .slice a3 n3 c3] 46)) := (Below.refl _ _).alloc (Nat.le_refl _) _
        have hsz34 : (w3.alloc (.cells #[.string (str nm), .slice a3 n3 c3] 46)).heap.size = w3.heap.size + 1 := by simp
        have m3 := (c1.frame d4 (fun g e => (HR0.out g e).1)).later hb34
        have hp := m3.push (d1.later hb34) (k := nm) (fun g e => by
          have h1 := d2 g e
          refine ⟨by omega, fun e2 => ?_, fun j e2 => ?_⟩
          · rw [e2] at c1; have := c1.row.lt; omega
          · have := c1.live e2; omega) ho4 hg4 (by rw [hsz34]; exact hr4) (by omega)
        have hrn : ∀ g, rn = some g → w1.heap.size ≤ g ∧ g < wr.heap.size := fun g e => ⟨HON.out.2 g e, c3'.rlt g e⟩
        unfold Hid
        rw [HTK.out, imgL_snoc, stAt_snoc, HGF.out]
        refine ⟨_, _, _, hp, HJL.out _ _ _ d3 ?_, ?_, ?_, fun g e => ⟨fun e2 => ?_, fun j e2 => ?_⟩, by simp⟩
        · exact (hb34.mono (by omega)).trans (grow_below hg4 (by omega) (fun g e => c1.rbase g e))
        · refine grow_trans (grow_trans (grow_trans c2 d4 (.inl rfl)) (below_grow hb34 none) (.inr (.inl rfl))) hg4 ?_
          cases r with
          | none => exact .inr (.inl rfl)
          | some g => exact .inr (.inr ⟨g, rfl, c1.rbase g rfl⟩)
        · refine ((c3'.kept d4 ?_).kept (below_grow hb34 none) ?_).kept hg4 ?_
          · cases rn with
            | none => exact .inl rfl
            | some g => exact .inr (fun e => by have := (HR0.out g e.symm).1; have := (hrn g rfl).1; omega)
          · cases rn with
            | none => exact .inl rfl
            | some g => exact .inr (by simp)
          · cases rn with
            | none => exact .inl rfl
            | some g => exact .inr (fun e => (c4' g rfl).1 e.symm)
        · rw [e2] at hr4
          rcases hr4 with h | h
          · exact (c4' g e).1 h.symm
          · have := (hrn g e).2; simp at e2; omega
        · have h1 := (hrn g e).2
          split at e2
          · have := d2 g e2; omega
          · exact (c4' g e).2 j e2
      clear ho4 hg4 hr4
      go_wp2
      go_roundg gk1
      case measure => omega
      case rel => exact ⟨k + 1, _, _, _, by omega, by go_num, rfl, HN.out⟩
end Go.Proofs.YthcnhjmkcekdaaaGreat

namespace Go.Proofs.YthcnhjmkcekdaaaGreat
open Go.RowKit Go.Maps Go.Sort Go.WideMaps Plain
set_option linter.unusedVariables false
set_option linter.unusedSimpArgs false
set_option maxHeartbeats 4000000 in
set_option maxRecDepth 1000000 in
theorem imageOf0 {σ : Type} (w : World) (m : Option Nat) (L : Dir) (N : Nat) (r0 : Option Nat) (J : σ → World → Prop) (B : σ → Nat → List Nat) (nx : σ → Nat → σ) (s : σ)
    (h : MapO w m L) (hmax : L.length ≤ 2199023255000) (hJ : J s w) (hr0 : ∀ g, r0 = some g → g < w.heap.size ∧ m ≠ some g)
    (hJl : ∀ s w1 w2, J s w1 → Below w.heap.size w1 w2 → J s w2)
    (hcf : ∀ (a : Value) (W : World), (callFunc N #[a]).run Tryz.prog W = .ok (.enter N #[a]) W)
    (hfn : ∀ s w1 k G, J s w1 → w.grownBy w1 r0 → look L k = some G → Calls Tryz.prog N #[.pointer (some ⟨G, 0, none⟩)] w1 (FnPost J (B s G) (nx s G) r0 w1)) :
    Calls Tryz.prog 69 #[.map m, .func (.func N) #[] #[]] w (ImgPost J (imgL L B nx s (nms L)) (stAt L nx s (nms L)) r0 w) := by
  have HM : Hid (MapO w m L) := h
  have HJ : Hid (J s w) := hJ
  have HJL : Hid (∀ s w1 w2, J s w1 → Below w.heap.size w1 w2 → J s w2) := hJl
  have HFN : Hid (∀ s w1 k G, J s w1 → w.grownBy w1 r0 → look L k = some G → Calls Tryz.prog N #[.pointer (some ⟨G, 0, none⟩)] w1 (FnPost J (B s G) (nx s G) r0 w1)) := hfn
  have HR0 : Hid (∀ g, r0 = some g → g < w.heap.size ∧ m ≠ some g) := hr0
  have hlen := lenO w m L h
  obtain ⟨i, hi, hz0, hz1, hz2⟩ := info_parts infoFile
  have HI : Hid (Tryz.prog.info? 46 = some i ∧ i.zero = some Fi.none.agg ∧ i.size = 2 ∧ i.bytes = 40) := ⟨hi, hz0, hz1, hz2⟩
  have HRI : Hid (∀ w1 : World, Below w.heap.size w w1 → Calls Tryz.prog 83 #[.map m] w1 fun e w2 => ∃ a c r, e = .returned (.slice a (nms L).length c) ∧ (nms L).length ≤ c ∧ c ≤ 2 ^ 63 - 1 ∧ OwnV w2 (.slice a (nms L).length c) ((nms L).map encStr) r ∧ (∀ g, r = some g → w1.heap.size ≤ g) ∧ Below w1.heap.size w1 w2) := fun w1 hb => by
    rcases h with ⟨rfl, rfl⟩ | ⟨b, rfl, h⟩
    · refine (risingNil w1).mono ?_
      rintro e w2 ⟨rfl, h2⟩
      have e0 : nms [] = [] := by simp [nms, srt]
      rw [e0]
      exact ⟨none, 0, none, rfl, by simp, by simp, OwnV.nil _, by simp, h2⟩
    · refine (risingAt b L w1 (h.of_block (hb.block b h.lt)) (by omega)).mono ?_
      rintro e w2 ⟨v, ss, rfl, hp, hrow, _, h2⟩
      have hs : ss.mergeSort (fun x y => decide (x ≤ y)) = nms L := srt_eq hp
      rw [hs] at hrow
      obtain ⟨r, h3, h4⟩ := OwnV.of_row hrow
      obtain ⟨a, c, rfl, h5, h6⟩ := h3.shape
      rw [List.length_map] at h3 h6
      unfold maxLen at h5
      exact ⟨a, c, r, by rw [List.length_map], h6, by omega, h3, h4, h2⟩
  have hnl := nms_len L
  clear h hJ hJl hfn hr0 hi hz0 hz1 hz2
  go_enter Tryz.func69, Tryz.ntmps69
  go_wp2_with (at_make; refine wpList_make_own _ rfl _ _ 40 rfl 0 46 i _ 2 Tryz.underlying40 HI.out.1 HI.out.2.1 HI.out.2.2.1 .i64 .i64 _ L.length rfl rfl rfl (by rw [HI.out.2.2.2]; omega) (by unfold maxLen; omega) (Nat.zero_le _) ?_; intro w1 hor1 hg1)
  have HO1 : Hid (OwnI w1 (.slice (some ⟨w.heap.size, 0, none⟩) 0 L.length) [] (some w.heap.size)) := OwnI.of_made hor1
  have HB1 : Hid (Below w.heap.size w w1) := grow_below hg1 (Nat.le_refl _) (by simp)
  have hs1 : w.heap.size < w1.heap.size := HO1.out.lt
  clear hor1 hg1
  go_wp2_with fail
  refine (HRI.out w1 HB1.out).mono ?_
  rintro e w2 ⟨an, cn, rn, rfl, q1, q2, hon, hrn, hb2⟩
  have HON : Hid (OwnV w2 (.slice an (nms L).length cn) ((nms L).map encStr) rn ∧ ∀ g, rn = some g → w1.heap.size ≤ g) := ⟨hon, hrn⟩
  have HI0 : Hid (ImgM w2 (.slice (some ⟨w.heap.size, 0, none⟩) 0 L.length) [] w.heap.size [] (some w.heap.size) (fun _ => none)) := ⟨HO1.out.later hb2, rfl, by simp, by simp, by simp, by simp, by simp⟩
  have HB2 : Hid (Below w.heap.size w w2) := HB1.out.trans (hb2.mono (Nat.le_of_lt hs1))
  clear hon hrn hb2 HO1 hlen
  go_wp2
  go_loopg [5, 14] (nms L).length (fun gk s5 s14 wx => ∃ (k : Nat) (a5 : Option Addr) (n5 c5 : Nat), k + gk = (nms L).length ∧ s14 = .int .i64 k ∧ s5 = .slice a5 n5 c5 ∧ Hid (∃ ts r blk, ImgM wx (.slice a5 n5 c5) (imgL L B nx s ((nms L).take k)) w.heap.size ts r blk ∧ J (stAt L nx s ((nms L).take k)) wx ∧ w.grownBy wx r0 ∧ OwnV wx (.slice an (nms L).length cn) ((nms L).map encStr) rn ∧ (∀ g, rn = some g → r ≠ some g ∧ ∀ j, blk j ≠ some g) ∧ r ≠ none))
  case atStart =>
    refine ⟨0, _, _, _, by omega, rfl, rfl, [], some w.heap.size, fun _ => none, HI0.out, HJL.out _ _ _ HJ.out (HB2.out), below_grow HB2.out _, HON.out.1, fun g e => ⟨?_, by simp⟩, by simp⟩
    have := HON.out.2 g e
    simp; omega
  case round =>
    obtain ⟨k, a5, n5, c5, hkg, rfl, rfl, HV⟩ := hrel
    cases gk with
    | zero =>
      obtain rfl : k = (nms L).length := by omega
      have HP : Hid (ImgPost J (imgL L B nx s (nms L)) (stAt L nx s (nms L)) r0 w (.returned (.slice a5 n5 c5)) wr) := by
        obtain ⟨ts, r, blk, h1, h2, h3, h4, h5, h6⟩ := HV.out
        rw [List.take_length] at h1 h2
        exact ⟨_, rfl, ⟨ts, r, blk, h1⟩, h2, h3⟩
      go_wp2
      go_ret
      exact HP.out
    | succ gk1 =>
      have hk : k < (nms L).length := by omega
      obtain ⟨nm, hnm⟩ : ∃ nm, (nms L)[k]? = some nm := ⟨_, List.getElem?_eq_getElem hk⟩
      obtain ⟨ts, r, blk, h1, h2, h3, h4, h5, h6⟩ := HV.out
      obtain ⟨gn, hgn, rfl, hcell⟩ := h4.get (j := k) (u := encStr nm) (by rw [List.getElem?_map, hnm]; rfl)
      have hmem : nm ∈ L.map (·.1) := nms_mem.mp (List.mem_of_getElem? hnm)
      obtain ⟨G, hG⟩ := look_some hmem
      have hMr : MapO wr m L := HM.out.of_block (fun b e => h3.block b (by have := HM.out; rw [e] at this; exact this.lt) (fun e2 => (HR0.out b e2.symm).2 e))
      have hsz := name_size HM.out hmem
      have hlk : (Instr.lookup 65 (.map m) (.string (str nm)) false).run Tryz.prog wr = .ok (.pointer (some ⟨G, 0, none⟩)) wr := by
        rw [lookO wr m L hMr (str nm) hsz, str_list, hG]; rfl
      have HFC : Hid (Calls Tryz.prog N #[.pointer (some ⟨G, 0, none⟩)] wr (FnPost J (B (stAt L nx s ((nms L).take k)) G) (nx (stAt L nx s ((nms L).take k)) G) r0 wr)) := HFN.out _ wr nm G h2 h3 hG
      have HTK : Hid ((nms L).take (k + 1) = (nms L).take k ++ [nm]) := by
        unfold Hid
        obtain ⟨hk', e⟩ := List.getElem?_eq_some_iff.mp hnm
        rw [List.take_succ_eq_append_getElem hk', e]
      have HGF : Hid (fileOf L nm = G) := by unfold Hid fileOf; rw [hG]; rfl
      have HCUR : Hid (ImgM wr (.slice a5 n5 c5) (imgL L B nx s ((nms L).take k)) w.heap.size ts r blk ∧ w.grownBy wr r0 ∧ OwnV wr (.slice (some ⟨gn, 0, none⟩) (nms L).length cn) ((nms L).map encStr) rn ∧ (∀ g, rn = some g → r ≠ some g ∧ ∀ j, blk j ≠ some g) ∧ r ≠ none) := ⟨h1, h3, h4, h5, h6⟩
      have hcell' : wr.cell? ⟨gn, k, none⟩ = some (.string (str nm)) := hcell
      have hwr := h3.size
      clear h1 h2 h3 h4 h5 h6 hcell hMr hG hmem hnm HV
      go_wp2_with fail
      refine HFC.out.mono ?_
      rintro e w3 ⟨a3, n3, c3, q3, rfl, ho3, hq3, hj3, hg3⟩
      have H3 : Hid (Own w3 (.slice a3 n3 c3) (B (stAt L nx s ((nms L).take k)) G) q3 ∧ (∀ g, q3 = some g → wr.heap.size ≤ g) ∧ J (nx (stAt L nx s ((nms L).take k)) G) w3 ∧ wr.grownBy w3 r0) := ⟨ho3, hq3, hj3, hg3⟩
      have hw3 := hg3.size
      clear ho3 hq3 hj3 hg3 hlk
      go_wp2_with (at_builtin; refine wpList_append_files _ rfl _ _ rfl _ _ ts [⟨str nm, .slice a3 n3 c3⟩] r rfl rfl ?hOwn ?hSrc ?hLen ?hR ?_)
      case hOwn => exact (HCUR.out.1.frame H3.out.2.2.2 (fun g e => (HR0.out g e).1)).row.later ((Below.refl _ _).alloc (Nat.le_refl _) _)
      case hSrc => exact src_file w3 (str nm) a3 n3 c3
      case hLen =>
        have h1 := HCUR.out.1.len
        rw [imgL_len, List.length_take] at h1
        simp
        omega
      case hR => exact .inr (by simp)
      intro v4 w4 g4 ho4 hg4 hr4
      obtain ⟨a4, c4, rfl, -, -⟩ := ho4.shape
      have HN : Hid (∃ ts' r' blk', ImgM w4 (.slice a4 (ts ++ [(⟨str nm, .slice a3 n3 c3⟩ : Fi)]).length c4) (imgL L B nx s ((nms L).take (k + 1))) w.heap.size ts' r' blk' ∧ J (stAt L nx s ((nms L).take (k + 1))) w4 ∧ w.grownBy w4 r0 ∧ OwnV w4 (.slice (some ⟨gn, 0, none⟩) (nms L).length cn) ((nms L).map encStr) rn ∧ (∀ g, rn = some g → r' ≠ some g ∧ ∀ j, blk' j ≠ some g) ∧ r' ≠ none) := by
        obtain ⟨c1, c2, c3', c4', c5'⟩ := HCUR.out
        obtain ⟨d1, d2, d3, d4⟩ := H3.out
        have hb34 : Below w3.heap.size w3 (w3.alloc (.cells #[.string (str nm), .slice a3 n3 c3] 46)) := (Below.refl _ _).alloc (Nat.le_refl _) _
        have hsz34 : (w3.alloc (.cells #[.string (str nm), .slice a3 n3 c3] 46)).heap.size = w3.heap.size + 1 := by simp
        have m3 := (c1.frame d4 (fun g e => (HR0.out g e).1)).later hb34
        have hp := m3.push (d1.later hb34) (k := nm) (fun g e => by
          have h1 := d2 g e
          refine ⟨by omega, fun e2 => ?_, fun j e2 => ?_⟩
          · rw [e2] at c1; have := c1.row.lt; omega
          · have := c1.live e2; omega) ho4 hg4 (by rw [hsz34]; exact hr4) (by omega)
        have hrn : ∀ g, rn = some g → w1.heap.size ≤ g ∧ g < wr.heap.size := fun g e => ⟨HON.out.2 g e, c3'.rlt g e⟩
        unfold Hid
        rw [HTK.out, imgL_snoc, stAt_snoc, HGF.out]
        refine ⟨_, _, _, hp, HJL.out _ _ _ d3 ?_, ?_, ?_, fun g e => ⟨fun e2 => ?_, fun j e2 => ?_⟩, by simp⟩
        · exact (hb34.mono (by omega)).trans (grow_below hg4 (by omega) (fun g e => c1.rbase g e))
        · refine grow_trans (grow_trans (grow_trans c2 d4 (.inl rfl)) (below_grow hb34 none) (.inr (.inl rfl))) hg4 ?_
          cases r with
          | none => exact .inr (.inl rfl)
          | some g => exact .inr (.inr ⟨g, rfl, c1.rbase g rfl⟩)
        · refine ((c3'.kept d4 ?_).kept (below_grow hb34 none) ?_).kept hg4 ?_
          · cases rn with
            | none => exact .inl rfl
            | some g => exact .inr (fun e => by have := (HR0.out g e.symm).1; have := (hrn g rfl).1; omega)
          · cases rn with
            | none => exact .inl rfl
            | some g => exact .inr (by simp)
          · cases rn with
            | none => exact .inl rfl
            | some g => exact .inr (fun e => (c4' g rfl).1 e.symm)
        · rw [e2] at hr4
          rcases hr4 with h | h
          · exact (c4' g e).1 h.symm
          · have := (hrn g e).2; simp at e2; omega
        · have h1 := (hrn g e).2
          split at e2
          · have := d2 g e2; omega
          · exact (c4' g e).2 j e2
      clear ho4 hg4 hr4
      go_wp2
      go_roundg gk1
      case measure => omega
      case rel => exact ⟨k + 1, _, _, _, by omega, by go_num, rfl, HN.out⟩
end Go.Proofs.YthcnhjmkcekdaaaGreat

namespace Go.Proofs.YthcnhjmkcekdaaaGreat
open Go.RowKit Go.Maps Plain
set_option linter.unusedVariables false
set_option linter.unusedSimpArgs false
theorem keys_ne {a b : ByteArray} (h : ¬ a = b) : (a.toList == b.toList) = false := by
  rw [beq_eq_false_iff_ne, ByteArray.toList_eq, ByteArray.toList_eq]
  exact fun e => h (WideShapes.bytes_inj e)
def renameK (k : Dk) (s t : ByteArray) : Int × Dk := if rdy k.dead [s, t] ≠ 0 then (rdy k.dead [s, t], k) else if s = t then (3, k) else if (fnd k.dead k.L s).2 = 0 then (if k.can then (0, (k.spent.uses (k.used - sizeK k t)).did (DC.mv s.data.toList t.data.toList)) else (34, k.spent)) else ((fnd k.dead k.L s).2, k)
set_option maxHeartbeats 4000000 in
set_option maxRecDepth 1000000 in
theorem renameOf (d : Nat) (k : Dk) (n : Nat) (S : Nat → Prop) (s t : ByteArray) (hs : s.size ≤ maxLen) (ht : t.size ≤ maxLen) (w : World) (h : DiskAt w d k S) (hk : k.Dok n) (hu : k.Uok) (hn : n ≤ 4398046511103) : Calls Tryz.prog 47 #[.pointer (some ⟨d, 0, none⟩), .string s, .string t] w (OpPost d (renameK k s t) S w) := by
  have HB0 : Hid (Below w.heap.size w (w.alloc (.cells #[.string s, .string t] 9))) := (Below.refl _ _).alloc (Nat.le_refl _) _
  have HS0 : Hid (St S w d k (w.alloc (.cells #[.string s, .string t] 9))) := (St.start h).below HB0.out
  have HR : Hid (Calls Tryz.prog 77 #[.pointer (some ⟨d, 0, none⟩), .slice (some ⟨w.heap.size, 0, none⟩) 2 2] (w.alloc (.cells #[.string s, .string t] 9)) fun e w' => e = .returned (.int .i64 (rdy k.dead [s, t])) ∧ w' = w.alloc (.cells #[.string s, .string t] 9)) := by
    obtain ⟨ms, md, vc, rc, Sf, hm⟩ := HS0.out.at
    exact readyOf d k.dead [s, t] _ _ hm.at0.2 (StrsAt.two w s t 9 hs ht)
  obtain ⟨u1, u2⟩ := hu.used
  have q3 := look_sum hu t
  clear h
  by_cases hr : rdy k.dead [s, t] = 0
  · rw [hr] at HR
    by_cases hst : s = t
    · have HE : Hid (renameK k s t = (3, k)) := by unfold Hid renameK; rw [if_neg (by simpa using hr), if_pos hst]
      rw [HE.out]
      subst hst
      clear hr hk hu u1 u2
      go_enter Tryz.func47, Tryz.ntmps47
      go_wp2_with fail
      refine HR.out.mono ?_
      rintro e w1 ⟨rfl, rfl⟩
      go_wp2
      go_ret
      exact ⟨rfl, HS0.out⟩
    · have HRN : Hid (renameK k s t = if (fnd k.dead k.L s).2 = 0 then (if k.can then (0, (k.spent.uses (k.used - sizeK k t)).did (DC.mv s.data.toList t.data.toList)) else (34, k.spent)) else ((fnd k.dead k.L s).2, k)) := by unfold Hid renameK; rw [if_neg (by simpa using hr), if_neg hst]
      have hst2 := keys_ne hst
      obtain ⟨W0, hW0⟩ : ∃ W0, w.alloc (.cells #[.string s, .string t] 9) = W0 := ⟨_, rfl⟩
      have HFD : Hid (Calls Tryz.prog 79 #[.pointer (some ⟨d, 0, none⟩), .string s] W0 fun e w' => e = .returned (.tuple #[(fnd k.dead k.L s).1, .int .i64 (fnd k.dead k.L s).2]) ∧ w' = W0.alloc (.cells #[.string s] 9)) := by rw [← hW0]; exact findSt HS0.out s hs
      have HB1 : Hid (Below W0.heap.size W0 (W0.alloc (.cells #[.string s] 9))) := (Below.refl _ _).alloc (Nat.le_refl _) _
      have HS : Hid (St S w d k (W0.alloc (.cells #[.string s] 9))) := by rw [hW0] at HS0; exact HS0.out.below HB1.out
      rw [hW0] at HR
      have HW0 : Hid (w.alloc (.cells #[.string s, .string t] 9) = W0) := hW0
      obtain ⟨W1, hW1⟩ : ∃ W1, W0.alloc (.cells #[.string s] 9) = W1 := ⟨_, rfl⟩
      rw [hW1] at HFD HB1 HS
      clear hW1 hr HS0 HB0
      by_cases h0 : (fnd k.dead k.L s).2 = 0
      · obtain ⟨G, hl, hfe⟩ := fnd_ok h0
        rw [hfe] at HFD
        have HC : Hid (∀ w', St S w d k.spent w' → w'.cell? ⟨d, 3, none⟩ = some (.int .i64 k.used) ∧ w'.frozen? ⟨d, 3, none⟩ = false) := fun w' h' => ⟨h'.cells.1, h'.cells.2.2⟩
        have HSP : Hid (Calls Tryz.prog 78 #[.pointer (some ⟨d, 0, none⟩)] W1 fun e w' => e = .returned (.bool k.can) ∧ St S w d k.spent w') := SpendAfter HS.out hk.ok hn
        have HDO : Hid (∀ u w', St S w d (k.spent.uses u) w' → Calls Tryz.prog 34 #[.pointer (some ⟨d, 0, none⟩), .iface 138 (.agg #[.string s, .string t])] w' fun e w2 => e = .returned (.tuple #[]) ∧ St S w d ((k.spent.uses u).did (DC.mv s.data.toList t.data.toList)) w2) := fun u w' h' => by
          have := doDOf w' d (k.spent.uses u) _ (DC.mv s.data.toList t.data.toList) h'.1 ⟨by rw [Array.length_toList]; exact hs, by rw [Array.length_toList]; exact ht, G, hl⟩ (by show k.L.length < _; have := hk.few; omega) (by show k.chg.length ≤ _; have := hk.cnt; omega)
          rw [DC.val_mv, str_of, str_of] at this
          refine this.mono ?_
          rintro e w2 ⟨rfl, h2⟩
          exact ⟨rfl, h'.next h2⟩
        have HKO : Hid (k.Ok n) := hk.ok
        have HAP : Hid (renameK k s t = if k.can then (0, (k.spent.uses (k.used - sizeK k t)).did (DC.mv s.data.toList t.data.toList)) else (34, k.spent)) := by unfold Hid; rw [HRN.out, if_pos h0]
        have HDS : Hid (∀ w', St S w d k.spent w' → Calls Tryz.prog 82 #[.pointer (some ⟨d, 0, none⟩), .string t] w' fun e w2 => e = .returned (.int .i64 (sizeK k t : Int)) ∧ w2 = w') := fun w' h' => h'.lkup HKO.out t ht
        clear hk hu h0 hl hfe HRN
        obtain ⟨U, hU⟩ : ∃ U, k.used = U := ⟨_, rfl⟩
        obtain ⟨N, hN⟩ : ∃ N, sizeK k t = N := ⟨_, rfl⟩
        rw [hU] at u1 u2 q3 HC HAP
        rw [hN] at q3 HAP HDS
        clear hU hN
        cases hc : k.can with
        | false =>
          rw [HAP.out, hc, if_neg (by simp)]
          rw [hc] at HSP
          clear hc HAP HC HDO
          go_enter Tryz.func47, Tryz.ntmps47
          go_wp2_with fail
          refine HR.out.mono ?_
          rintro e w0 ⟨rfl, rfl⟩
          go_wp2_with fail
          refine HFD.out.mono ?_
          rintro e w1 ⟨rfl, rfl⟩
          go_wp2_with fail
          refine HSP.out.mono ?_
          rintro e w2 ⟨rfl, hs2⟩
          have HS2 : Hid (St S w d k.spent w2) := hs2
          clear hs2
          go_wp2
          go_ret
          exact ⟨rfl, HS2.out⟩
        | true =>
          rw [HAP.out, hc, if_pos rfl]
          rw [hc] at HSP
          clear hc HAP
          go_enter Tryz.func47, Tryz.ntmps47
          go_wp2_with fail
          refine HR.out.mono ?_
          rintro e w0 ⟨rfl, rfl⟩
          go_wp2_with fail
          refine HFD.out.mono ?_
          rintro e w1 ⟨rfl, rfl⟩
          go_wp2_with fail
          refine HSP.out.mono ?_
          rintro e w2 ⟨rfl, hs2⟩
          obtain ⟨d3, y3⟩ := HC.out w2 hs2
          have HS2 : Hid (St S w d k.spent w2.drew) := hs2.below (Below.refl _ _).drew
          have HDS2 : Hid (Calls Tryz.prog 82 #[.pointer (some ⟨d, 0, none⟩), .string t] w2.drew fun e w2' => e = .returned (.int .i64 (N : Int)) ∧ w2' = w2.drew) := HDS.out _ HS2.out
          clear hs2 HC HSP HDS
          go_wp2
          go_region_with (
            go_at_call 82
            refine HDS2.out.mono ?_
            rintro e w3 ⟨rfl, rfl⟩)
          all_goals
            go_wp2_with fail
            refine (HDO.out (U - N) _ (usesSt HS2.out _)).mono ?_
            rintro e w4 ⟨rfl, hs4⟩
            have HS4 : Hid (St S w d ((k.spent.uses (U - N)).did (DC.mv s.data.toList t.data.toList)) w4) := hs4
            clear hs4
            go_wp2
            go_ret
            exact ⟨rfl, HS4.out⟩
      · rw [HRN.out, if_neg h0]
        have hp := fnd_bad h0
        rw [hp] at HFD
        obtain ⟨z, hz⟩ : ∃ z, (fnd k.dead k.L s).2 = z := ⟨_, rfl⟩
        rw [hz] at HFD h0 ⊢
        have hne : (z != 0) = true := by simpa using h0
        have hne2 : (z == 0) = false := beq_eq_false_iff_ne.mpr h0
        clear hz hp h0 hk hu u1 u2 HRN
        go_enter Tryz.func47, Tryz.ntmps47
        go_wp2_with fail
        refine HR.out.mono ?_
        rintro e w0 ⟨rfl, rfl⟩
        go_wp2_with fail
        refine HFD.out.mono ?_
        rintro e w1 ⟨rfl, rfl⟩
        go_wp2
        go_ret
        exact ⟨rfl, HS.out⟩
  · have HE : Hid (renameK k s t = (rdy k.dead [s, t], k)) := by unfold Hid renameK; rw [if_pos (by simpa using hr)]
    rw [HE.out]
    obtain ⟨z, hz⟩ : ∃ z, rdy k.dead [s, t] = z := ⟨_, rfl⟩
    rw [hz] at HR hr ⊢
    have hne : (z != 0) = true := by simpa using hr
    have hne2 : (z == 0) = false := beq_eq_false_iff_ne.mpr hr
    clear hz hr hk hu u1 u2 HE
    go_enter Tryz.func47, Tryz.ntmps47
    go_wp2_with fail
    refine HR.out.mono ?_
    rintro e w1 ⟨rfl, rfl⟩
    go_wp2
    go_ret
    exact ⟨rfl, HS0.out⟩
end Go.Proofs.YthcnhjmkcekdaaaGreat
