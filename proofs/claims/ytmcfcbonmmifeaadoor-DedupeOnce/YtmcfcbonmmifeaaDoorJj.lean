import Derived.Test.YtmcfcbonmmifeaaDoorJLay
import Derived.Test.YtmcfcbonmmifeaaDoorJi
/-! dedupe: the sort, List. -/
namespace Go.Proofs.YtmcfcbonmmifeaaDoor
open Go.Shelf Go.RowKit Go.Lib Go.Sort Plain
set_option linter.unusedVariables false
set_option linter.unusedSimpArgs false

theorem agg_pr (w : World) : (isAgg 43).run Tryd.prog w = .ok true w := by kernel_rfl
theorem size_pr (w : World) : (Go.sizeOf 43).run Tryd.prog w = .ok 3 w := by kernel_rfl
abbrev fnCmp : Value := .func (.func 18) #[] #[]
def icmp (a b : Int) : Int := if a < b then -1 else if b < a then 1 else 0
def cfP (x y : Pr) : Int := icmp x.pid y.pid
def leP (x y : Pr) : Prop := ltOf cfP y x = false
theorem ltP (x y : Pr) : ltOf cfP x y = decide (x.pid < y.pid) := by
  unfold ltOf cfP icmp
  by_cases h1 : x.pid < y.pid
  · simp [h1]
  · by_cases h2 : y.pid < x.pid
    · simp [h1, h2]
    · simp [h1, h2]
theorem grow_two (W : World) (a b : Obj) : ((W.alloc a).alloc b) = grow (W.drewN 0) #[a, b] := by
  rw [alloc_eq_grow, alloc_eq_grow, grow_grow]
  rfl
theorem isNaNOf (x : Int) (w : World) : Calls Tryd.prog 28 #[.int .i64 x] w fun e w' => e = .returned (.bool false) ∧ w' = w := by
  go_enter Tryd.func28, Tryd.ntmps28
  go_wp2
  go_ret
  exact ⟨by simp, rfl⟩
theorem cmpOf (x y : Int) (w : World) : Calls Tryd.prog 19 #[.int .i64 x, .int .i64 y] w fun e w' => e = .returned (.int .i64 (icmp x y)) ∧ w' = w := by
  by_cases h1 : x < y
  · have HE : Hid (icmp x y = -1) := by unfold Hid icmp; rw [if_pos h1]
    go_enter Tryd.func19, Tryd.ntmps19
    go_wp2_with fail
    refine (isNaNOf x _).mono ?_
    rintro e w1 ⟨rfl, rfl⟩
    go_wp2_with fail
    refine (isNaNOf y _).mono ?_
    rintro e w1 ⟨rfl, rfl⟩
    go_wp2
    go_ret
    exact ⟨by rw [HE.out]; rfl, rfl⟩
  · by_cases h2 : y < x
    · have HE : Hid (icmp x y = 1) := by unfold Hid icmp; rw [if_neg h1, if_pos h2]
      go_enter Tryd.func19, Tryd.ntmps19
      go_wp2_with fail
      refine (isNaNOf x _).mono ?_
      rintro e w1 ⟨rfl, rfl⟩
      go_wp2_with fail
      refine (isNaNOf y _).mono ?_
      rintro e w1 ⟨rfl, rfl⟩
      go_wp2
      go_ret
      exact ⟨by rw [HE.out]; rfl, rfl⟩
    · have HE : Hid (icmp x y = 0) := by unfold Hid icmp; rw [if_neg h1, if_neg h2]
      go_enter Tryd.func19, Tryd.ntmps19
      go_wp2_with fail
      refine (isNaNOf x _).mono ?_
      rintro e w1 ⟨rfl, rfl⟩
      go_wp2_with fail
      refine (isNaNOf y _).mono ?_
      rintro e w1 ⟨rfl, rfl⟩
      go_wp2
      go_ret
      exact ⟨by rw [HE.out]; rfl, rfl⟩
theorem foldCmp1 (x y : Pr) (W : World) : Calls Tryd.prog 18 #[x.agg, y.agg] W fun e w' => e = .returned (.int .i64 (cfP x y)) ∧ ∃ q os', w' = grow (W.drewN q) os' := by
  have HCM : Hid (∀ w, Calls Tryd.prog 19 #[.int .i64 x.pid, .int .i64 y.pid] w fun e w' => e = .returned (.int .i64 (cfP x y)) ∧ w' = w) := fun w => cmpOf _ _ w
  generalize cfP x y = C at HCM ⊢
  obtain ⟨xk, xo, xt⟩ := x
  obtain ⟨yk, yo, yt⟩ := y
  simp only at HCM
  unfold Pr.agg
  go_enter Tryd.func18, Tryd.ntmps18
  go_wp2_with fail
  refine (HCM.out _).mono ?_
  rintro e w' ⟨rfl, rfl⟩
  go_wp2
  go_ret
  exact ⟨rfl, 0, _, grow_two _ _ _⟩
theorem swoP : SWO (ltOf cfP) :=
  ⟨fun x => by rw [ltP]; simp, fun x y z h1 h2 => by rw [ltP] at h1 h2 ⊢; simp at h1 h2 ⊢; omega, fun x y z h1 h2 => by rw [ltP] at h1 h2 ⊢; simp at h1 h2 ⊢; omega⟩
theorem cmpLaysP [Inhabited Pr] (blk off size : Nat) (w : World) : CmpLays Tryd.prog 18 #[] Pr.cells 3 cfP blk off size w :=
  fun _ _ _ _ x y => foldCmp1 x y _
theorem bang [Inhabited Pr] (d : Array Pr) (m : Nat) (hm : m < d.size) : d[m]! = d.toList.getD m Pr.zero := by
  rw [getElem!_pos d m hm]
  simp [hm]

theorem flat_at [Inhabited Pr] (d : Array Pr) (t : Nat) (ht : t < d.size * 3) : some ((flatK Pr.cells 3 d)[t]!) = (qcells d.toList)[t]? := by
  show some ((flatK Pr.cells 3 d)[t]!) = _
  rw [get_flatK _ _ _ _ ht]
  have h1 := qcells_get d.toList (t / 3) (t % 3) (by simp; omega) (by omega)
  rw [show t / 3 * 3 + t % 3 = t by omega] at h1
  rw [h1, ← bang d (t / 3) (by omega)]
  have hl : (Pr.cells d[t / 3]!).length = 3 := rfl
  unfold Pr.cells at hl ⊢
  rw [getElem!_pos _ _ (by rw [hl]; omega), List.getElem?_eq_getElem (by rw [hl]; omega)]

theorem heap_sort [Inhabited Pr] (w : World) (g n : Nat) (d : Array Pr) (os : Array Obj) (k : Nat) (hk : k < w.heap.size) (hne : k ≠ g) : (sortWorldK Pr.cells 3 w g 0 n d os).heap[k]? = w.heap[k]? := by
  show (sortWorldK Pr.cells 3 w g 0 n d os).heap[k]? = w.heap[k]?
  unfold sortWorldK
  rw [heap_grow_old _ _ (by unfold putRowK; rw [size_putRow]; exact hk)]
  unfold putRowK putRow mapBlock
  show (w.heap.modify g _)[k]? = _
  rw [Array.getElem?_modify, if_neg (Ne.symm hne)]

set_option maxHeartbeats 1000000 in
theorem sortSome [Inhabited Pr] (g n cap : Nat) (ts : List Pr) (w : World) (ho : OwnPr w (.slice (some ⟨g, 0, none⟩) n cap) ts (some g)) (hl : ts.length ≤ 8796093022208) :
    Calls Tryd.prog 26 #[.slice (some ⟨g, 0, none⟩) n cap, fnCmp] w fun e w' => e = .returned (.tuple #[]) ∧ ∃ L, L.Perm ts ∧ L.Pairwise leP ∧ OwnPr w' (.slice (some ⟨g, 0, none⟩) n cap) L (some g) ∧ w.grownBy w' (some g) := by
  rcases ho with ⟨h0, _, _⟩ | ⟨g', cap', e, e2, hg, h1, h2, h3, h4, h5⟩
  · simp at h0
  simp at e
  subst e
  injection e2 with _ e3 e4
  subst e3 e4
  obtain ⟨d, hd⟩ : ∃ d : Array Pr, d = ts.toArray := ⟨_, rfl⟩
  have hdl : d.toList = ts := by rw [hd]
  have hds : d.size = ts.length := by rw [hd]; simp
  have hH : HoldsK Pr.cells 3 w g 0 d := fun j hj => by
    rw [size_flatK, hds] at hj
    rw [Nat.zero_add]
    refine ⟨?_, h3 j (by omega)⟩
    rw [h5 j (by omega), ← hdl]
    exact (flat_at d j (by omega)).symm
  have eg : ∀ args w, (callFunc 18 args).run Tryd.prog w = .ok (.enter 18 args) w := enters_of Tryd.func18 (by kernel_rfl) rfl
  have hcon := AnyQ.slices_SortFunc Tryd.sortRec 3 agg_pr size_pr Pr.cells (fun _ => rfl) (fun x v hv => by simp [Pr.cells] at hv; rcases hv with rfl | rfl | rfl <;> rfl) cfP swoP 18 #[] g 0 cap d w eg (cmpLaysP g 0 d.size w) hH hg (by omega)
  rw [hds] at hcon
  refine Calls.mono hcon ?_
  rintro e w' ⟨rfl, d', m, os, hp, hs, rfl⟩
  have hsz : d'.size = d.size := hp.1
  have hsz' : d'.size = ts.length := hsz.trans hds
  refine ⟨rfl, d'.toList, ?_, ?_, ?_, ?_⟩
  · have h9 := hp.2.2
    rw [← hds] at h9
    rw [Array.extract_size] at h9
    rw [← hsz, Array.extract_size] at h9
    rwa [hdl] at h9
  · rw [List.pairwise_iff_getElem]
    intro i j hi hj hij
    have hj' : j < d'.size := by simpa using hj
    have h9 := hs i j (Nat.zero_le _) hij (by omega)
    rw [getElem!_pos d' j hj', getElem!_pos d' i (by omega)] at h9
    simp only [Array.getElem_toList]
    exact h9
  · have hHd := holdsK_sortWorldK_c Pr.cells 3 w g 0 d d' m os hH hg hsz
    have hcell : ∀ t, 3 * ts.length ≤ t → (sortWorldK Pr.cells 3 w g 0 m d' os).cell? ⟨g, t, none⟩ = w.cell? ⟨g, t, none⟩ := fun t ht => by
      unfold sortWorldK
      rw [cell?_grow _ _ _ (by unfold putRowK; rw [size_putRow]; exact hg)]
      unfold putRowK
      rw [cell?_putRow_other _ _ _ _ _ _ (.inr (.inr (by rw [size_flatK, hsz']; simp only; omega)))]
      rfl
    have hfz : ∀ t, (sortWorldK Pr.cells 3 w g 0 m d' os).frozen? ⟨g, t, none⟩ = w.frozen? ⟨g, t, none⟩ := fun t => by
      unfold sortWorldK
      rw [frozen?_grow _ _ _ (by unfold putRowK; rw [size_putRow]; exact hg)]
      unfold putRowK
      rw [frozen?_putRow]
      rfl
    have hin : ∀ t, t < 3 * ts.length → (sortWorldK Pr.cells 3 w g 0 m d' os).cell? ⟨g, t, none⟩ = (qcells d'.toList)[t]? := fun t ht => by
      have h9 := (hHd t (by rw [size_flatK, hsz']; omega)).1
      rw [Nat.zero_add] at h9
      rw [h9]
      exact flat_at d' t (by omega)
    refine .inr ⟨g, cap, rfl, by simp [hsz'], lt_sortWorldK Pr.cells 3 w g 0 m d' os hg, by simpa [hsz'] using h1, h2, fun t ht => by rw [hfz]; exact h3 t ht, fun t ht => ?_, fun t ht => hin t (by simpa [hsz'] using ht)⟩
    by_cases htl : t < 3 * ts.length
    · rw [hin t htl, List.getElem?_eq_getElem (by rw [qcells_len]; simp [hsz']; omega)]; rfl
    · rw [hcell t (by omega)]; exact h4 t ht
  · refine ⟨rfl, rfl, rfl, ?_, fun k hk hne => heap_sort w g m d' os k hk (fun e => hne (by rw [e]))⟩
    unfold sortWorldK
    rw [size_grow]
    unfold putRowK
    rw [size_putRow]
    show w.heap.size ≤ w.heap.size + _
    omega

/-- Nothing is sorted. -/
theorem insNil (v : Value) (f : Value) (w : World) : Calls Tryd.prog 35 #[v, .int .i64 0, .int .i64 0, f] w fun e w' => e = .returned (.tuple #[]) ∧ w' = w := by
  go_enter Tryd.func35, Tryd.ntmps35
  go_wp2
  refine wp_loop_rounds 1 ?_
  rw [rounds_succ]
  go_wp2
  go_end0
  exact ⟨rfl, rfl⟩
theorem pdqNil (v : Value) (l : Int) (f : Value) (w : World) : Calls Tryd.prog 33 #[v, .int .i64 0, .int .i64 0, .int .i64 l, f] w fun e w' => e = .returned (.tuple #[]) ∧ w' = w := by
  go_enter Tryd.func33, Tryd.ntmps33
  go_wp2
  refine wp_loop_rounds 1 ?_
  rw [rounds_succ]
  go_wp2_with fail
  refine (insNil _ _ _).mono ?_
  rintro e w' ⟨rfl, rfl⟩
  go_wp2
  refine bodyPost_ret (results_none rfl _ _ _) rfl ?_
  exact ⟨rfl, rfl⟩
theorem lenNil (w : World) : Calls Tryd.prog 34 #[.int .u64 0] w fun e w' => ∃ l : Int, e = .returned (.int .i64 l) ∧ w' = w := by
  have := Any.bits_Len (SlLaysF0.n15.bits (P := Tryd.prog) (ρ := Tryd.sortRec_ren) { Tryd.sortRec with }) 0 w (by omega) (by omega)
  exact this.mono fun _ _ ⟨he, hw⟩ => ⟨_, he, hw⟩
theorem sortNil (w : World) : Calls Tryd.prog 26 #[.slice none 0 0, fnCmp] w fun e w' => e = .returned (.tuple #[]) ∧ w' = w := by
  go_enter Tryd.func26, Tryd.ntmps26
  go_wp2_with fail
  refine (lenNil _).mono ?_
  rintro e w' ⟨l, rfl, rfl⟩
  go_wp2_with fail
  refine (pdqNil _ l _ _).mono ?_
  rintro e w' ⟨rfl, rfl⟩
  go_wp2
  go_end0
  exact ⟨rfl, rfl⟩


theorem sortOf (v : Value) (ts : List Pr) (r : Option Nat) (w : World) (ho : OwnPr w v ts r) (hl : ts.length ≤ 8796093022208) : Calls Tryd.prog 26 #[v, fnCmp] w fun e w' => e = .returned (.tuple #[]) ∧ ∃ L, L.Perm ts ∧ L.Pairwise leP ∧ OwnPr w' v L r ∧ w.grownBy w' r := by
  rcases ho with ⟨rfl, rfl, rfl⟩ | ⟨g, cap, rfl, rfl, hg, h1, h2, h3, h4, h5⟩
  · exact (sortNil w).mono fun _ _ ⟨he, hw⟩ => ⟨he, [], List.Perm.refl _, List.Pairwise.nil, by rw [hw]; exact OwnPr.nil _, by rw [hw]; exact below_grow (RowKit.Below.refl _ _) _⟩
  · exact @sortSome ⟨Pr.zero⟩ g ts.length cap ts w (.inr ⟨g, cap, rfl, rfl, hg, h1, h2, h3, h4, h5⟩) hl
theorem sorted_is {L M : List Pr} (hr : Rise L) (hp : M.Perm L) (hs : M.Pairwise leP) : M = L := by
  refine rise_ext ?_ hr fun p => hp.mem_iff
  have hn : (M.map (·.pid)).Nodup := by
    have : (L.map (·.pid)).Nodup := by
      rw [List.nodup_iff_pairwise_ne, List.pairwise_map]
      exact hr.imp fun h e => by omega
    exact (hp.map (·.pid)).nodup_iff.mpr this
  rw [List.nodup_iff_pairwise_ne, List.pairwise_map] at hn
  refine (hs.and hn).imp fun h => ?_
  obtain ⟨h1, h2⟩ := h
  unfold leP at h1
  rw [ltP] at h1
  simp at h1
  omega
theorem collectOf (gf : Nat) (lb : Array Value) (S : List Pr → Prop) (N : Nat) (w : World) (hN : N ≤ 64) (eg : ∀ args w, (callFunc gf args).run Tryd.prog w = .ok (.enter gf args) w)
    (hseq : SeqStopsK Fence.wide 4 Tryd.prog gf lb (fun x : Pr => #[x.agg]) KeepsWalks S (fun _ => True) N w) :
    Calls Tryd.prog 25 #[.func (.func gf) #[] lb] w fun e w' => ∃ v r xs, e = .returned v ∧ S xs ∧ OwnPr w' v xs r ∧ (r ≠ none → xs ≠ []) ∧ (∀ g, r = some g → w.heap.size ≤ g) ∧ Below w.heap.size w w' := by
  have HA : Hid (Calls Tryd.prog 32 #[.slice none 0 0, .func (.func gf) #[] lb] w fun e w' => ∃ v r xs, e = .returned v ∧ S xs ∧ OwnPr w' v xs r ∧ (r ≠ none → xs ≠ []) ∧ (∀ g, r = some g → w.heap.size ≤ g) ∧ Below w.heap.size w w') := appendSeqOf gf lb S N w hN eg hseq
  clear hseq eg
  go_enter Tryd.func25, Tryd.ntmps25
  go_wp2_with fail
  refine HA.out.mono ?_
  rintro e w' ⟨v, r, xs, rfl, h1, h2, h3, h4, h5⟩
  have HP : Hid (S xs ∧ OwnPr w' v xs r ∧ (r ≠ none → xs ≠ []) ∧ (∀ g, r = some g → w.heap.size ≤ g) ∧ Below w.heap.size w w') := ⟨h1, h2, h3, h4, h5⟩
  clear h1 h2 h3 h4 h5 HA
  go_wp2
  go_ret
  exact ⟨v, r, xs, rfl, HP.out⟩
theorem mvalsOf (m : Option Nat) (w : World) : Calls Tryd.prog 17 #[.map m] w fun e w' => e = .returned (.func (.func 27) #[] #[.pointer (some ⟨w.heap.size, 0, none⟩)]) ∧ w' = w.alloc (.cells #[.map m] 48) := by
  go_enter Tryd.func17, Tryd.ntmps17
  go_wp2
  go_ret
  exact ⟨rfl, rfl⟩
/-- A list that is answered. -/
structure ListAt (w w' : World) (v : Value) (L : List Pr) (r : Option Nat) : Prop where
  row : OwnPr w' v L r
  new : ∀ g, r = some g → w.heap.size ≤ g
  below : Below w.heap.size w w'
set_option maxHeartbeats 1000000 in
theorem listOf (t : Nat) (m : Option Nat) (L : List Pr) (w : World) (h : TabAt w t m L) : Calls Tryd.prog 7 #[.pointer (some ⟨t, 0, none⟩)] w fun e w' => ∃ v r, e = .returned v ∧ ListAt w w' v L r := by
  have hc := h.cell
  have HT : Hid (TabAt w t m L) := h
  obtain ⟨w1, hw1⟩ : ∃ w1, w.alloc (.cells #[.map m] 48) = w1 := ⟨_, rfl⟩
  have hb1 : Below w.heap.size w w1 := by rw [← hw1]; exact (Below.refl _ _).alloc (Nat.le_refl _) _
  have hs1 : w1.heap.size = w.heap.size + 1 := by rw [← hw1]; simp
  have hm1 : w1.cell? ⟨w.heap.size, 0, none⟩ = some (.map m) := by rw [← hw1]; exact World.cell?_alloc_at _ _ _ _ rfl
  have HMV : Hid (Calls Tryd.prog 17 #[.map m] w fun e w' => e = .returned (.func (.func 27) #[] #[.pointer (some ⟨w.heap.size, 0, none⟩)]) ∧ w' = w1) := by rw [← hw1]; exact mvalsOf m w
  have HCO : Hid (Calls Tryd.prog 16 #[.func (.func 27) #[] #[.pointer (some ⟨w.heap.size, 0, none⟩)], fnCmp] w1 fun e w' => ∃ v r, e = .returned v ∧ ListAt w w' v L r) := by
    have HC : Hid (Calls Tryd.prog 25 #[.func (.func 27) #[] #[.pointer (some ⟨w.heap.size, 0, none⟩)]] w1 fun e w' => ∃ v r xs, e = .returned v ∧ xs.Perm L ∧ OwnPr w' v xs r ∧ (r ≠ none → xs ≠ []) ∧ (∀ g, r = some g → w1.heap.size ≤ g) ∧ Below w1.heap.size w1 w') :=
      collectOf 27 _ (fun xs => xs.Perm L) L.length w1 h.tab.len (enters_of Tryd.func27 (by kernel_rfl) rfl) (valuesO Fence.wide 4 trivial rfl (by omega) w.heap.size m L h.tab.rise w1 (by omega) hm1 (h.map.later hb1))
    have HL : Hid (L.length ≤ 64) := h.tab.len
    unfold Hid
    clear hm1 HMV hc h
    go_enter Tryd.func16, Tryd.ntmps16
    go_wp2_with fail
    refine HC.out.mono ?_
    rintro e w2 ⟨v, r, xs, rfl, h1, h2, h3, h4, h5⟩
    have HS : Hid (Calls Tryd.prog 26 #[v, .func (.func 18) #[] #[]] w2 fun e w' => e = .returned (.tuple #[]) ∧ ListAt w w' v L r) := by
      refine (sortOf v xs r w2 h2 (by have := HL.out; have := h1.length_eq; omega)).mono ?_
      rintro e w' ⟨rfl, M, k1, k2, k3, k4⟩
      obtain rfl : M = L := sorted_is HT.out.tab.rise (k1.trans h1) k2
      refine ⟨rfl, k3, fun g e => by have := h4 g e; omega, (below_step hb1 h5).trans (grow_below k4 (by have := h5.size; omega) (fun g e => by have := h4 g e; omega))⟩
    clear h1 h2 h3 h4 h5 HC
    go_wp2_with fail
    refine HS.out.mono ?_
    rintro e w3 ⟨rfl, hL⟩
    have HLA : Hid (ListAt w w3 v L r) := hL
    clear hL HS
    go_wp2
    go_ret
    exact ⟨v, r, rfl, HLA.out⟩
  clear hm1 h
  go_enter Tryd.func7, Tryd.ntmps7
  go_wp2_with fail
  refine HMV.out.mono ?_
  rintro e w2 ⟨rfl, rfl⟩
  go_wp2_with fail
  refine HCO.out.mono ?_
  rintro e w3 ⟨v, r, rfl, hL⟩
  have HLA : Hid (ListAt w w3 v L r) := hL
  clear hL HCO HMV
  go_wp2
  go_ret
  exact ⟨v, r, rfl, HLA.out⟩
end Go.Proofs.YtmcfcbonmmifeaaDoor
