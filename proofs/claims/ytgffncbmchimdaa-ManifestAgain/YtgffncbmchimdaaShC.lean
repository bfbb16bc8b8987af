import Derived.Test.YtgffncbmchimdaaShB
/-! The image of a directory, by a function that has taken nothing along. -/
namespace Go.Proofs.Ytgffncbmchimdaa
open Go.RowKit Go.Maps Go.Sort Go.WideMaps Plain
set_option linter.unusedVariables false
set_option linter.unusedSimpArgs false

set_option maxHeartbeats 4000000 in
set_option maxRecDepth 1000000 in
theorem imageOf0 {σ : Type} (w : World) (m : Option Nat) (L : Dir) (N : Nat) (r0 : Option Nat) (J : σ → World → Prop) (B : σ → Nat → List Nat) (nx : σ → Nat → σ) (s : σ)
    (h : MapO w m L) (hmax : L.length ≤ 2199023255000) (hJ : J s w) (hr0 : ∀ g, r0 = some g → g < w.heap.size ∧ m ≠ some g)
    (hJl : ∀ s w1 w2, J s w1 → Below w.heap.size w1 w2 → J s w2)
    (hcf : ∀ (a : Value) (W : World), (callFunc N #[a]).run Try.prog W = .ok (.enter N #[a]) W)
    (hfn : ∀ s w1 k G, J s w1 → w.grownBy w1 r0 → look L k = some G → Calls Try.prog N #[.pointer (some ⟨G, 0, none⟩)] w1 (FnPost J (B s G) (nx s G) r0 w1)) :
    Calls Try.prog 35 #[.map m, .func (.func N) #[] #[]] w (ImgPost J (imgL L B nx s (nms L)) (stAt L nx s (nms L)) r0 w) := by
  have HM : Hid (MapO w m L) := h
  have HJ : Hid (J s w) := hJ
  have HJL : Hid (∀ s w1 w2, J s w1 → Below w.heap.size w1 w2 → J s w2) := hJl
  have HFN : Hid (∀ s w1 k G, J s w1 → w.grownBy w1 r0 → look L k = some G → Calls Try.prog N #[.pointer (some ⟨G, 0, none⟩)] w1 (FnPost J (B s G) (nx s G) r0 w1)) := hfn
  have HR0 : Hid (∀ g, r0 = some g → g < w.heap.size ∧ m ≠ some g) := hr0
  have hlen := lenO w m L h
  obtain ⟨i, hi, hz0, hz1, hz2⟩ := info_parts infoFile
  have HI : Hid (Try.prog.info? 86 = some i ∧ i.zero = some Fi.none.agg ∧ i.size = 2 ∧ i.bytes = 40) := ⟨hi, hz0, hz1, hz2⟩
  have HRI : Hid (∀ w1 : World, Below w.heap.size w w1 → Calls Try.prog 30 #[.map m] w1 fun e w2 => ∃ a c r, e = .returned (.slice a (nms L).length c) ∧ (nms L).length ≤ c ∧ c ≤ 2 ^ 63 - 1 ∧ OwnV w2 (.slice a (nms L).length c) ((nms L).map encStr) r ∧ (∀ g, r = some g → w1.heap.size ≤ g) ∧ Below w1.heap.size w1 w2) := fun w1 hb => by
    rcases h with ⟨rfl, rfl⟩ | ⟨b, rfl, h⟩
    · refine (risingNil w1).mono ?_
      rintro e w2 ⟨rfl, h2⟩
      have e0 : nms [] = [] := by simp [nms, srt]
      rw [e0]
      exact ⟨none, 0, none, rfl, by simp, by simp, OwnV.nil _, by simp, h2⟩
    · refine (risingAt b L w1 (h.of_block (hb.block b h.lt)) (by omega)).mono ?_
      rintro e w2 ⟨v, ss, rfl, hp, hrow, _, h2⟩
      have hs : ss.mergeSort (fun x y => decide (x ≤ y)) = nms L := srt_eq hp
      rw [hs] at hrow
      obtain ⟨r, h3, h4⟩ := OwnV.of_row hrow
      obtain ⟨a, c, rfl, h5, h6⟩ := h3.shape
      rw [List.length_map] at h3 h6
      unfold maxLen at h5
      exact ⟨a, c, r, by rw [List.length_map], h6, by omega, h3, h4, h2⟩
  have hnl := nms_len L
  clear h hJ hJl hfn hr0 hi hz0 hz1 hz2
  go_enter Try.func35, Try.ntmps35
  go_wp2_with (at_make; refine wpList_make_own _ rfl _ _ 38 rfl 0 86 i _ 2 Try.underlying38 HI.out.1 HI.out.2.1 HI.out.2.2.1 .i64 .i64 _ L.length rfl rfl rfl (by rw [HI.out.2.2.2]; omega) (by unfold maxLen; omega) (Nat.zero_le _) ?_; intro w1 hor1 hg1)
  have HO1 : Hid (OwnI w1 (.slice (some ⟨w.heap.size, 0, none⟩) 0 L.length) [] (some w.heap.size)) := OwnI.of_made hor1
  have HB1 : Hid (Below w.heap.size w w1) := grow_below hg1 (Nat.le_refl _) (by simp)
  have hs1 : w.heap.size < w1.heap.size := HO1.out.lt
  clear hor1 hg1
  go_wp2_with fail
  refine (HRI.out w1 HB1.out).mono ?_
  rintro e w2 ⟨an, cn, rn, rfl, q1, q2, hon, hrn, hb2⟩
  have HON : Hid (OwnV w2 (.slice an (nms L).length cn) ((nms L).map encStr) rn ∧ ∀ g, rn = some g → w1.heap.size ≤ g) := ⟨hon, hrn⟩
  have HI0 : Hid (ImgM w2 (.slice (some ⟨w.heap.size, 0, none⟩) 0 L.length) [] w.heap.size [] (some w.heap.size) (fun _ => none)) := ⟨HO1.out.later hb2, rfl, by simp, by simp, by simp, by simp, by simp⟩
  have HB2 : Hid (Below w.heap.size w w2) := HB1.out.trans (hb2.mono (Nat.le_of_lt hs1))
  clear hon hrn hb2 HO1 hlen
  go_wp2
  go_loopg [5, 14] (nms L).length (fun gk s5 s14 wx => ∃ (k : Nat) (a5 : Option Addr) (n5 c5 : Nat), k + gk = (nms L).length ∧ s14 = .int .i64 k ∧ s5 = .slice a5 n5 c5 ∧ Hid (∃ ts r blk, ImgM wx (.slice a5 n5 c5) (imgL L B nx s ((nms L).take k)) w.heap.size ts r blk ∧ J (stAt L nx s ((nms L).take k)) wx ∧ w.grownBy wx r0 ∧ OwnV wx (.slice an (nms L).length cn) ((nms L).map encStr) rn ∧ (∀ g, rn = some g → r ≠ some g ∧ ∀ j, blk j ≠ some g) ∧ r ≠ none))
  case atStart =>
    refine ⟨0, _, _, _, by omega, rfl, rfl, [], some w.heap.size, fun _ => none, HI0.out, HJL.out _ _ _ HJ.out (HB2.out), below_grow HB2.out _, HON.out.1, fun g e => ⟨?_, by simp⟩, by simp⟩
    have := HON.out.2 g e
    simp; omega
  case round =>
    obtain ⟨k, a5, n5, c5, hkg, rfl, rfl, HV⟩ := hrel
    cases gk with
    | zero =>
      obtain rfl : k = (nms L).length := by omega
      have HP : Hid (ImgPost J (imgL L B nx s (nms L)) (stAt L nx s (nms L)) r0 w (.returned (.slice a5 n5 c5)) wr) := by
        obtain ⟨ts, r, blk, h1, h2, h3, h4, h5, h6⟩ := HV.out
        rw [List.take_length] at h1 h2
        exact ⟨_, rfl, ⟨ts, r, blk, h1⟩, h2, h3⟩
      go_wp2
      go_ret
      exact HP.out
    | succ gk1 =>
      have hk : k < (nms L).length := by omega
      obtain ⟨nm, hnm⟩ : ∃ nm, (nms L)[k]? = some nm := ⟨_, List.getElem?_eq_getElem hk⟩
      obtain ⟨ts, r, blk, h1, h2, h3, h4, h5, h6⟩ := HV.out
      obtain ⟨gn, hgn, rfl, hcell⟩ := h4.get (j := k) (u := encStr nm) (by rw [List.getElem?_map, hnm]; rfl)
      have hmem : nm ∈ L.map (·.1) := nms_mem.mp (List.mem_of_getElem? hnm)
      obtain ⟨G, hG⟩ := look_some hmem
      have hMr : MapO wr m L := HM.out.of_block (fun b e => h3.block b (by have := HM.out; rw [e] at this; exact this.lt) (fun e2 => (HR0.out b e2.symm).2 e))
      have hsz := name_size HM.out hmem
      have hlk : (Instr.lookup 64 (.map m) (.string (str nm)) false).run Try.prog wr = .ok (.pointer (some ⟨G, 0, none⟩)) wr := by
        rw [lookO wr m L hMr (str nm) hsz, str_list, hG]; rfl
      have HFC : Hid (Calls Try.prog N #[.pointer (some ⟨G, 0, none⟩)] wr (FnPost J (B (stAt L nx s ((nms L).take k)) G) (nx (stAt L nx s ((nms L).take k)) G) r0 wr)) := HFN.out _ wr nm G h2 h3 hG
      have HTK : Hid ((nms L).take (k + 1) = (nms L).take k ++ [nm]) := by
        unfold Hid
        obtain ⟨hk', e⟩ := List.getElem?_eq_some_iff.mp hnm
        rw [List.take_succ_eq_append_getElem hk', e]
      have HGF : Hid (fileOf L nm = G) := by unfold Hid fileOf; rw [hG]; rfl
      have HCUR : Hid (ImgM wr (.slice a5 n5 c5) (imgL L B nx s ((nms L).take k)) w.heap.size ts r blk ∧ w.grownBy wr r0 ∧ OwnV wr (.slice (some ⟨gn, 0, none⟩) (nms L).length cn) ((nms L).map encStr) rn ∧ (∀ g, rn = some g → r ≠ some g ∧ ∀ j, blk j ≠ some g) ∧ r ≠ none) := ⟨h1, h3, h4, h5, h6⟩
      have hcell' : wr.cell? ⟨gn, k, none⟩ = some (.string (str nm)) := hcell
      have hwr := h3.size
      clear h1 h2 h3 h4 h5 h6 hcell hMr hG hmem hnm HV
      go_wp2_with fail
      refine HFC.out.mono ?_
      rintro e w3 ⟨a3, n3, c3, q3, rfl, ho3, hq3, hj3, hg3⟩
      have H3 : Hid (Own w3 (.slice a3 n3 c3) (B (stAt L nx s ((nms L).take k)) G) q3 ∧ (∀ g, q3 = some g → wr.heap.size ≤ g) ∧ J (nx (stAt L nx s ((nms L).take k)) G) w3 ∧ wr.grownBy w3 r0) := ⟨ho3, hq3, hj3, hg3⟩
      have hw3 := hg3.size
      clear ho3 hq3 hj3 hg3 hlk
      go_wp2_with (at_builtin; refine wpList_append_files _ rfl _ _ rfl _ _ ts [⟨str nm, .slice a3 n3 c3⟩] r rfl rfl ?hOwn ?hSrc ?hLen ?hR ?_)
      case hOwn => exact (HCUR.out.1.frame H3.out.2.2.2 (fun g e => (HR0.out g e).1)).row.later ((Below.refl _ _).alloc (Nat.le_refl _) _)
      case hSrc => exact src_file w3 (str nm) a3 n3 c3
      case hLen =>
        have h1 := HCUR.out.1.len
        rw [imgL_len, List.length_take] at h1
        simp
        omega
      case hR => exact .inr (by simp)
      intro v4 w4 g4 ho4 hg4 hr4
      obtain ⟨a4, c4, rfl, -, -⟩ := ho4.shape
      have HN : Hid (∃ ts' r' blk', ImgM w4 (.slice a4 (ts ++ [(⟨str nm, .slice a3 n3 c3⟩ : Fi)]).length c4) (imgL L B nx s ((nms L).take (k + 1))) w.heap.size ts' r' blk' ∧ J (stAt L nx s ((nms L).take (k + 1))) w4 ∧ w.grownBy w4 r0 ∧ OwnV w4 (.slice (some ⟨gn, 0, none⟩) (nms L).length cn) ((nms L).map encStr) rn ∧ (∀ g, rn = some g → r' ≠ some g ∧ ∀ j, blk' j ≠ some g) ∧ r' ≠ none) := by
        obtain ⟨c1, c2, c3', c4', c5'⟩ := HCUR.out
        obtain ⟨d1, d2, d3, d4⟩ := H3.out
        have hb34 : Below w3.heap.size w3 (w3.alloc (.cells #[.string (str nm), .slice a3 n3 c3] 86)) := (Below.refl _ _).alloc (Nat.le_refl _) _
        have hsz34 : (w3.alloc (.cells #[.string (str nm), .slice a3 n3 c3] 86)).heap.size = w3.heap.size + 1 := by simp
        have m3 := (c1.frame d4 (fun g e => (HR0.out g e).1)).later hb34
        have hp := m3.push (d1.later hb34) (k := nm) (fun g e => by
          have h1 := d2 g e
          refine ⟨by omega, fun e2 => ?_, fun j e2 => ?_⟩
          · rw [e2] at c1; have := c1.row.lt; omega
          · have := c1.live e2; omega) ho4 hg4 (by rw [hsz34]; exact hr4) (by omega)
        have hrn : ∀ g, rn = some g → w1.heap.size ≤ g ∧ g < wr.heap.size := fun g e => ⟨HON.out.2 g e, c3'.rlt g e⟩
        unfold Hid
        rw [HTK.out, imgL_snoc, stAt_snoc, HGF.out]
        refine ⟨_, _, _, hp, HJL.out _ _ _ d3 ?_, ?_, ?_, fun g e => ⟨fun e2 => ?_, fun j e2 => ?_⟩, by simp⟩
        · exact (hb34.mono (by omega)).trans (grow_below hg4 (by omega) (fun g e => c1.rbase g e))
        · refine grow_trans (grow_trans (grow_trans c2 d4 (.inl rfl)) (below_grow hb34 none) (.inr (.inl rfl))) hg4 ?_
          cases r with
          | none => exact .inr (.inl rfl)
          | some g => exact .inr (.inr ⟨g, rfl, c1.rbase g rfl⟩)
        · refine ((c3'.kept d4 ?_).kept (below_grow hb34 none) ?_).kept hg4 ?_
          · cases rn with
            | none => exact .inl rfl
            | some g => exact .inr (fun e => by have := (HR0.out g e.symm).1; have := (hrn g rfl).1; omega)
          · cases rn with
            | none => exact .inl rfl
            | some g => exact .inr (by simp)
          · cases rn with
            | none => exact .inl rfl
            | some g => exact .inr (fun e => (c4' g rfl).1 e.symm)
        · rw [e2] at hr4
          rcases hr4 with h | h
          · exact (c4' g e).1 h.symm
          · have := (hrn g e).2; simp at e2; omega
        · have h1 := (hrn g e).2

          split at e2
          · have := d2 g e2; omega
          · exact (c4' g e).2 j e2
      clear ho4 hg4 hr4
      go_wp2
      go_roundg gk1
      case measure => omega
      case rel => exact ⟨k + 1, _, _, _, by omega, by go_num, rfl, HN.out⟩
end Go.Proofs.Ytgffncbmchimdaa
