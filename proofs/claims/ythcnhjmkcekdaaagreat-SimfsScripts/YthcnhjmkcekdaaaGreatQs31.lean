import Derived.Test.YthcnhjmkcekdaaaGreatQs30
namespace Go.Proofs.YthcnhjmkcekdaaaGreat
open Go.RowKit Go.Maps Plain
set_option linter.unusedVariables false
set_option linter.unusedSimpArgs false
/-- What is right in an image. -/
structure ImOk (im : List (Nm × List Nat)) : Prop where
  few : im.length ≤ 65536
  names : ∀ p ∈ im, nmL p.1 = true
  sizes : ∀ p ∈ im, (str p.1).size ≤ maxLen
  up : ∀ (i : Nat) p q, im[i]? = some p → im[i + 1]? = some q → leB q.1 p.1 = false
  apart : (im.map (·.1)).Nodup
  lim : (im.map fun p => p.2.length).sum ≤ 70368744177664
/-- Behind i files. -/
def LdS (q : Int) (im : List (Nm × List Nat)) (w : World) (d i : Nat) (wx : World) : Prop := ∃ xs k, xs.map (·.1) = im.take i ∧ LdI q xs k ∧ Dsk w d k wx
theorem ImOk.next {q : Int} {im : List (Nm × List Nat)} {xs : List ((Nm × List Nat) × Nat)} {k : Dk} {i G : Nat} {nm : Nm} {l : List Nat} (h : ImOk im) (hx : xs.map (·.1) = im.take i) (hk : LdI q xs k) (hi : im[i]? = some (nm, l)) (hG : ¬ k.live G) : (xs ++ [((nm, l), G)]).map (·.1) = im.take (i + 1) ∧ LdI q (xs ++ [((nm, l), G)]) (k.load1 nm l G) ∧ k.used + l.length ≤ 70368744177664 ∧ 0 ≤ k.used := by
  obtain ⟨hl, e⟩ := List.getElem?_eq_some_iff.mp hi
  have e1 : im.take (i + 1) = im.take i ++ [(nm, l)] := by rw [List.take_succ_eq_append_getElem hl, e]
  have hm : (nm, l) ∈ im := List.mem_of_getElem? hi
  have hxl : xs.length = i := by
    have := congrArg List.length hx
    rw [List.length_map, List.length_take] at this
    omega
  have hsum : (xs.map fun x => x.1.2.length).sum + l.length ≤ 70368744177664 := by
    have h1 : (xs.map fun x => x.1.2.length) = (im.take i).map (fun p => p.2.length) := by
      rw [← hx, List.map_map]; rfl
    have h2 : ((im.take (i + 1)).map fun p => p.2.length).sum ≤ (im.map fun p => p.2.length).sum := by
      have h3 := congrArg (fun z => (z.map fun p : Nm × List Nat => p.2.length).sum) (List.take_append_drop (i + 1) im)
      simp only [List.map_append, List.sum_append] at h3
      omega
    rw [e1, List.map_append, List.sum_append] at h2
    have h4 := h.lim
    rw [h1]
    simp only [List.map_cons, List.map_nil, List.sum_cons, List.sum_nil] at h2
    omega
  refine ⟨by rw [List.map_append, hx, e1]; rfl, hk.next hG (fun x hx1 e2 => ?_) (h.names _ hm) ?_ (by have := h.few; omega) hsum, ?_, ?_⟩
  · have h1 : x.1 ∈ im.take i := hx ▸ List.mem_map_of_mem hx1
    have h2 := h.apart
    rw [← List.take_append_drop (i + 1) im, e1, List.map_append, List.map_append, List.append_assoc, List.nodup_append] at h2
    exact h2.2.2 _ (List.mem_map_of_mem h1) _ (List.mem_append_left _ (List.mem_singleton.mpr rfl)) e2
  · have := size_list _ (h.sizes _ hm)
    rwa [str_list] at this
  · rw [hk.used]; omega
  · rw [hk.used]; omega
theorem LdS.below {q : Int} {im : List (Nm × List Nat)} {w wx : World} {d i : Nat} (h : LdS q im w d i wx) : Below w.heap.size w wx := by
  obtain ⟨xs, k, _, _, hb, _⟩ := h
  exact hb
theorem loadedG (w : World) (a : Option Addr) (n c : Nat) (l : List Nat) (h : BytesAt w (.slice a n c) l) (hl : l.length ≤ 140737488355328) :
    Calls Tryz.prog 35 #[.slice a n c] w fun e w' => ∃ G T, e = .returned (.pointer (some ⟨G, 0, none⟩)) ∧ G = w.heap.size ∧ FileAt w' G ⟨l, l, []⟩ T ∧ (∀ x, T x → w.heap.size ≤ x) ∧ Below w.heap.size w w' := by
  refine (loadedOf w a n c l h hl).mono ?_
  rintro e w' ⟨T, rfl, h1, h2, h3⟩
  exact ⟨_, T, rfl, rfl, h1, h2, h3⟩
def LdP2 (q : Int) (im : List (Nm × List Nat)) (w : World) (d i : Nat) (ad : Option Addr) (nd cd : Nat) (U : Int) (wr : World) (e : Ending) (w4 : World) : Prop :=
  e = .returned (.tuple #[]) ∧ w4.cell? ⟨d, 3, none⟩ = some (.int .i64 U) ∧ w4.frozen? ⟨d, 3, none⟩ = false ∧ w4.cell? ⟨wr.heap.size, 1, none⟩ = some (.slice ad nd cd) ∧ ∀ wz, Below w4.heap.size w4 wz → LdS q im w d (i + 1) (wz.setCell ⟨d, 3, none⟩ (.int .i64 (U + (nd : Int))))
def LdP1 (q : Int) (im : List (Nm × List Nat)) (w : World) (d i : Nat) (nm : Nm) (ad : Option Addr) (nd cd : Nat) (U : Int) (wr : World) (e : Ending) (w3 : World) : Prop :=
  ∃ G, e = .returned (.pointer (some ⟨G, 0, none⟩)) ∧ w3.cell? ⟨wr.heap.size, 0, none⟩ = some (.string (str nm)) ∧ w3.cell? ⟨wr.heap.size, 1, none⟩ = some (.slice ad nd cd) ∧ Calls Tryz.prog 34 #[.pointer (some ⟨d, 0, none⟩), .iface 77 (.agg #[.string (str nm), .pointer (some ⟨G, 0, none⟩)])] w3 (LdP2 q im w d i ad nd cd U wr)
theorem ldRound {q : Int} {im : List (Nm × List Nat)} {w wr : World} {d i nd cd : Nat} {ad : Option Addr} {nm : Nm} {l : List Nat} (h : LdS q im w d i wr) (ho : ImOk im) (hkl : im[i]? = some (nm, l)) (g3 : BytesAt wr (.slice ad nd cd) l) :
    ∃ U : Int, 0 ≤ U ∧ U + (nd : Int) ≤ 70368744177664 ∧ Calls Tryz.prog 35 #[.slice ad nd cd] (wr.alloc (.cells #[.string (str nm), .slice ad nd cd] 46)).drew (LdP1 q im w d i nm ad nd cd U wr) := by
  obtain ⟨xs, k, hx, hk, hb, S, hD, hS⟩ := h
  have hbn : Below wr.heap.size wr (wr.alloc (.cells #[.string (str nm), .slice ad nd cd] 46)) := (Below.refl _ wr).alloc (Nat.le_refl _) _
  have hA0 : (wr.alloc (.cells #[.string (str nm), .slice ad nd cd] 46)).heap[wr.heap.size]? = some (.cells #[.string (str nm), .slice ad nd cd] 46) := by
    show (wr.heap.push _)[wr.heap.size]? = _
    simp
  have hsA : (wr.alloc (.cells #[.string (str nm), .slice ad nd cd] 46)).heap.size = wr.heap.size + 1 := by simp
  generalize wr.alloc (.cells #[.string (str nm), .slice ad nd cd] 46) = wA at *
  have hbd : Below wA.heap.size wA wA.drew := (Below.refl _ wA).drew
  have hnl : nd = l.length := by
    obtain ⟨a9, c9, e9, _⟩ := g3
    cases e9; rfl
  have hlv : ∀ G, k.live G → G < wr.heap.size := fun G hG => Dsk.liveLt (W := w) (d := d) ⟨hb, S, hD, hS⟩ hG
  have hGl : ¬ k.live wA.heap.size := fun hl => by have := hlv _ hl; omega
  obtain ⟨n1, n2, n3, n4⟩ := ho.next hx hk hkl hGl
  have hst : St S wA d k wA.drew := (St.start (hD.later hbn)).below hbd
  refine ⟨k.used, n4, by omega, (loadedG wA.drew ad nd cd l ((g3.later hbn).later hbd) (by omega)).mono ?_⟩
  rintro e w3 ⟨G, T, rfl, hG, hf, hT, hb3⟩
  have hG' : G = wA.heap.size := hG
  subst hG'
  have s3 : St S wA d (k.addFl wA.heap.size ⟨l, l, []⟩) w3 := addFlSt hst hb3 hf hT (Nat.le_refl _)
  have hSr : ∀ x, S x → x < wr.heap.size := hD.rng
  have blk : ∀ w4, Chg S wA w4 → w4.heap[wr.heap.size]? = some (.cells #[.string (str nm), .slice ad nd cd] 46) := fun w4 hc => (hc.block _ (by omega) (fun hs => by have := hSr _ hs; omega)).trans hA0
  have cl : ∀ w4, Chg S wA w4 → w4.cell? ⟨wr.heap.size, 0, none⟩ = some (.string (str nm)) ∧ w4.cell? ⟨wr.heap.size, 1, none⟩ = some (.slice ad nd cd) := fun w4 hc => by
    have := blk w4 hc
    simp [World.cell?, this]
  refine ⟨wA.heap.size, rfl, (cl _ s3.2).1, (cl _ s3.2).2, ?_⟩
  have hm : (nm, l) ∈ im := List.mem_of_getElem? hkl
  have hz : nm.length ≤ maxLen := by
    have := size_list _ (ho.sizes _ hm)
    rwa [str_list] at this
  have hcnt := hk.dok.cnt
  have hfw := hk.dok.few
  have hxl : xs.length ≤ 65536 := by
    have := congrArg List.length hx
    rw [List.length_map, List.length_take] at this
    have := ho.few
    omega
  refine (doDOf w3 d (k.addFl wA.heap.size ⟨l, l, []⟩) _ (DC.mk nm wA.heap.size) s3.1 hz (by show k.L.length < _; omega) (by show k.chg.length ≤ _; omega)).mono ?_
  rintro e w4 ⟨rfl, h4⟩
  have s4 : St S wA d ((k.addFl wA.heap.size ⟨l, l, []⟩).did (DC.mk nm wA.heap.size)) w4 := s3.next h4
  obtain ⟨ms, md, vc, rc, Sf, hm4⟩ := s4.at
  obtain ⟨⟨_, _, _, c3, _, _, _, _, _⟩, ⟨_, _, _, y3, _, _, _, _, _⟩⟩ := dcells hm4.cells
  refine ⟨rfl, c3, y3, (cl _ s4.2).2, fun wz hbz => ⟨_, _, n1, n2, ?_⟩⟩
  have s5 := usesSt (s4.below hbz) (k.used + (nd : Int))
  have e5 : k.load1 nm l wA.heap.size = ((k.addFl wA.heap.size ⟨l, l, []⟩).did (DC.mk nm wA.heap.size)).uses (k.used + (nd : Int)) := by rw [hnl]; rfl
  rw [e5]
  exact Dsk.ofSt (hb.trans (hbn.mono hb.size)) hS s5
set_option maxHeartbeats 4000000 in
set_option maxRecDepth 1000000 in
theorem loadIm (q : Int) (hq : qB q = true) (v : Value) (im : List (Nm × List Nat)) (w : World) (h : ImR w v im) (ho : ImOk im) :
    Calls Tryz.prog 10 #[v, .int .i64 q] w fun e w' => ∃ xs k d, xs.map (·.1) = im ∧ LdI q xs k ∧ e = .returned (.tuple #[.pointer (some ⟨d, 0, none⟩), .int .i64 0]) ∧ Dsk w d k.settled w' := by
  have hq' : 0 ≤ q ∧ q ≤ 1073741824 := by simpa [qB] using hq
  have HQ : Hid (Calls Tryz.prog 32 #[.int .i64 q] w fun e w' => e = .returned (.bool true) ∧ w' = w) := by
    have := isQuotaOf q (by omega) (by omega) w
    rwa [hq] at this
  have HIM : Hid (Calls Tryz.prog 33 #[v] w fun e w' => e = .returned (.bool true) ∧ Below w.heap.size w w') := isImageOk v im w h ho.names ho.sizes ho.up
  have HR : Hid (ImR w v im) := h
  have HO : Hid (ImOk im) := ho
  have HQ2 : Hid (0 ≤ q ∧ q ≤ 1073741824) := hq'
  obtain ⟨a, c, rfl, p1, p2, p3⟩ := h
  have hfew := ho.few
  clear p3 hq hq' ho
  go_enter Tryz.func10, Tryz.ntmps10
  go_wp2_with fail
  refine HQ.out.mono ?_
  rintro e w1 ⟨rfl, rfl⟩
  go_wp2_with fail
  refine HIM.out.mono ?_
  rintro e w2 ⟨rfl, hb2⟩
  have HS0 : Hid (LdS q im w1 w2.heap.size 0 (w2.alloc (freshD q))) := ⟨[], Dk.fresh q, by simp, LdI.start HQ2.out.1 HQ2.out.2, hb2.trans (((Below.refl _ w2).alloc (Nat.le_refl _) _).mono hb2.size), _, freshAt w2 q, fun x hx => by subst hx; exact hb2.size⟩
  have hdw : w1.heap.size ≤ w2.heap.size := hb2.size
  clear hb2
  go_wp2_with fail
  go_loopg [23] im.length (fun gk s23 wx => ∃ (i : Nat), i + gk = im.length ∧ s23 = .int .i64 i ∧ Hid (LdS q im w1 w2.heap.size i wx))
  case atStart => exact ⟨0, by omega, rfl, HS0.out⟩
  case round =>
    obtain ⟨i, hi, rfl, HS⟩ := hrel
    generalize hdd : w2.heap.size = d at *
    cases gk with
    | zero =>
      obtain rfl : i = im.length := by omega
      obtain ⟨xs, k, hx, hk, hb, S, hD, hS⟩ := HS.out
      rw [List.take_length] at hx
      have HSE : Hid (Calls Tryz.prog 36 #[.pointer (some ⟨d, 0, none⟩)] wr fun e w' => e = .returned (.tuple #[]) ∧ Dsk w1 d k.settled w') := by
        refine (settleDOf wr d k S hD hk.dok.dir hk.dok.eq).mono ?_
        rintro e w' ⟨rfl, hst⟩
        exact ⟨rfl, Dsk.ofSt hb hS hst⟩
      have HK : Hid (xs.map (·.1) = im ∧ LdI q xs k) := ⟨hx, hk⟩
      clear hx hk hb hD hS
      go_wp2_with fail
      refine HSE.out.mono ?_
      rintro e w3 ⟨rfl, hs3⟩
      have HS3 : Hid (Dsk w1 d k.settled w3) := hs3
      clear hs3
      go_wp2
      go_ret2
      exact ⟨xs, k, d, HK.out.1, HK.out.2, rfl, HS3.out⟩
    | succ gk1 =>
      have hil : i < im.length := by omega
      have hne : im ≠ [] := by rintro rfl; simp at hil
      obtain ⟨⟨nm, l⟩, hkl⟩ : ∃ p, im[i]? = some p := ⟨_, List.getElem?_eq_getElem hil⟩
      obtain ⟨a0, c0, e0, _, _, f0⟩ := HR.out.after HS.out.below
      obtain ⟨b, eb, f1⟩ := f0 hne
      cases e0
      subst eb
      obtain ⟨ad, nd, cd, g1, g2, g3⟩ := f1 i nm l hkl
      obtain ⟨U, hU0, hU1, hr⟩ := ldRound HS.out HO.out hkl g3
      have HLD : Hid (Calls Tryz.prog 35 #[.slice ad nd cd] (wr.alloc (.cells #[.string (str nm), .slice ad nd cd] 46)).drew (LdP1 q im w1 d i nm ad nd cd U wr)) := hr
      have hw : IntKind.i64.wrap (U + (nd : Int)) = U + (nd : Int) := by rw [IntKind.wrap_i64]; omega
      clear hr f0 f1 g3 hne hkl
      go_wp2
      go_region_with (first
        | (go_at_call 35
           refine HLD.out.mono ?_
           rintro e w3 ⟨G, rfl, u0, u1, hdo⟩
           have HDO : Hid (Calls Tryz.prog 34 #[.pointer (some ⟨d, 0, none⟩), .iface 77 (.agg #[.string (str nm), .pointer (some ⟨G, 0, none⟩)])] w3 (LdP2 q im w1 d i ad nd cd U wr)) := hdo
           clear hdo)
        | (go_at_call 34
           refine HDO.out.mono ?_
           rintro e w4 ⟨rfl, y3, z3, y8, hfin⟩
           have HF : Hid (∀ wz, Below w4.heap.size w4 wz → LdS q im w1 d (i + 1) (wz.setCell ⟨d, 3, none⟩ (.int .i64 (U + (nd : Int))))) := hfin
           clear hfin))
      all_goals
        go_wp2
        go_region
        all_goals
          go_wp2
          go_roundg gk1
          case measure => omega
          case rel =>
            refine ⟨i + 1, by omega, by go_num, ?_⟩
            first
              | exact HF.out _ (Below.refl _ _).drew
              | exact HF.out _ (Below.refl _ _)
end Go.Proofs.YthcnhjmkcekdaaaGreat
