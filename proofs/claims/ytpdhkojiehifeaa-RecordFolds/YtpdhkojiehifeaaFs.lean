import Derived.Test.YtpdhkojiehifeaaLay
import Derived.Test.YtpdhkojiehifeaaFg
import Derived.Test.YtpdhkojiehifeaaCWalkC
/-! The sort of the live records. -/
namespace Go.Proofs.Ytpdhkojiehifeaa
open Go.Shelf Go.RowKit Go.Lib Go.Sort Plain
set_option linter.unusedVariables false

theorem agg_rec (w : World) : (isAgg 32).run Try.prog w = .ok true w := by kernel_rfl
theorem size_rec (w : World) : (Go.sizeOf 32).run Try.prog w = .ok 7 w := by kernel_rfl

/-- A record as the machine has it. -/
abbrev RK : Type := { x : Rc // x.Ok }
def noneK : RK := ⟨Rc.none, by
  have h : I64 0 := by unfold I64; omega
  exact ⟨h, h, h, h, h, by simp [Rc.none], by simp [Rc.none]⟩⟩
def encK (x : RK) : List Value := x.1.cells
def cfK (x y : RK) : Int := kcmp x.1 y.1

theorem grow_two (W : World) (a b : Obj) (q : Nat) (os' : Array Obj) : grow (((W.alloc a).alloc b).drewN q) os' = grow (W.drewN q) (#[a, b] ++ os') := by
  rw [alloc_eq_grow, alloc_eq_grow, grow_grow]
  show grow (grow (W.drewN q) (#[a] ++ #[b])) os' = _
  rw [grow_grow]
  rfl

theorem foldCmp1 (x y : Rc) (hx : x.Ok) (hy : y.Ok) (W : World) : Calls Try.prog 20 #[x.agg, y.agg] W fun e w' => e = .returned (.int .i64 (kcmp x y)) ∧ ∃ q os', w' = grow (W.drewN q) os' := by
  have HCM : Hid (∀ w, Calls Try.prog 21 #[.string x.key, .string y.key] w fun e w' => e = .returned (.int .i64 (kcmp x y)) ∧ ∃ q os', w' = grow (w.drewN q) os') := fun w => compareG _ _ w hx.key hy.key
  generalize kcmp x y = C at HCM ⊢
  obtain ⟨xk, xo, xt, xp, xq, xkey, xval⟩ := x
  obtain ⟨yk, yo, yt, yp, yq, ykey, yval⟩ := y
  simp only at HCM
  clear hx hy
  unfold Rc.agg
  go_enter Try.func20, Try.ntmps20
  go_wp2_with fail
  refine (HCM.out _).mono ?_
  rintro e w' ⟨rfl, q, os', hw⟩
  have HW : Hid (w' = grow (((W.alloc (.cells #[.int .i64 xk, .int .i64 xo, .int .i64 xt, .int .i64 xp, .int .i64 xq, .string xkey, .string xval] 32)).alloc (.cells #[.int .i64 yk, .int .i64 yo, .int .i64 yt, .int .i64 yp, .int .i64 yq, .string ykey, .string yval] 32)).drewN q) os') := hw
  clear hw
  go_wp2
  go_ret
  refine ⟨rfl, q, #[.cells #[.int .i64 xk, .int .i64 xo, .int .i64 xt, .int .i64 xp, .int .i64 xq, .string xkey, .string xval] 32, .cells #[.int .i64 yk, .int .i64 yo, .int .i64 yt, .int .i64 yp, .int .i64 yq, .string ykey, .string yval] 32] ++ os', ?_⟩
  rw [HW.out, grow_two]

theorem swoK : SWO (ltOf cfK) :=
  ⟨fun x => ltK_irrefl x.1, fun x y z h1 h2 => ltK_trans (x := x.1) (y := y.1) (z := z.1) h1 h2, fun x y z h1 h2 => ltK_ntrans (x := x.1) (y := y.1) (z := z.1) h1 h2⟩

theorem cmpLaysK [Inhabited RK] (blk off size : Nat) (w : World) : CmpLays Try.prog 20 #[] encK 7 cfK blk off size w :=
  fun _ _ _ _ x y => foldCmp1 x.1 y.1 x.2 y.2 _

/-- The records of a row, each with what it is like. -/
def toK (ts : List Rc) (h : ∀ x ∈ ts, x.Ok) : List RK := ts.attach.map fun x => ⟨x.1, h x.1 x.2⟩
theorem toK_val (ts : List Rc) (h : ∀ x ∈ ts, x.Ok) : (toK ts h).map (·.1) = ts := by
  unfold toK
  rw [List.map_map]
  exact List.attach_map_subtype_val ts
theorem toK_len (ts : List Rc) (h : ∀ x ∈ ts, x.Ok) : (toK ts h).length = ts.length := by simp [toK]

theorem bang [Inhabited RK] (d : Array RK) (m : Nat) (hm : m < d.size) : (d[m]!).1 = (d.toList.map (·.1)).getD m Rc.none := by
  rw [getElem!_pos d m hm]
  simp [hm]

theorem flat_at [Inhabited RK] (d : Array RK) (t : Nat) (ht : t < d.size * 7) : some ((flatK encK 7 d)[t]!) = (rcells (d.toList.map (·.1)))[t]? := by
  show some ((flatK encK 7 d)[t]!) = _
  rw [get_flatK _ _ _ _ ht]
  have h1 := rcells_get (d.toList.map (·.1)) (t / 7) (t % 7) (by simp; omega) (by omega)
  rw [show t / 7 * 7 + t % 7 = t by omega] at h1
  rw [h1, ← bang d (t / 7) (by omega)]
  have hl : (encK d[t / 7]!).length = 7 := rfl
  unfold encK at hl ⊢
  rw [getElem!_pos _ _ (by rw [hl]; omega), List.getElem?_eq_getElem (by rw [hl]; omega)]

theorem heap_sort [Inhabited RK] (w : World) (g n : Nat) (d : Array RK) (os : Array Obj) (k : Nat) (hk : k < w.heap.size) (hne : k ≠ g) : (sortWorldK encK 7 w g 0 n d os).heap[k]? = w.heap[k]? := by
  show (sortWorldK encK 7 w g 0 n d os).heap[k]? = w.heap[k]?
  unfold sortWorldK
  rw [heap_grow_old _ _ (by unfold putRowK; rw [size_putRow]; exact hk)]
  unfold putRowK putRow mapBlock
  show (w.heap.modify g _)[k]? = _
  rw [Array.getElem?_modify, if_neg (Ne.symm hne)]

set_option maxHeartbeats 1000000 in
theorem sortSome [Inhabited RK] (g n cap : Nat) (ts : List Rc) (w : World) (ho : OwnR w (.slice (some ⟨g, 0, none⟩) n cap) ts (some g)) (hok : ∀ x ∈ ts, x.Ok) (hl : ts.length ≤ 2199023255552) :
    Calls Try.prog 19 #[.slice (some ⟨g, 0, none⟩) n cap, fnCmp] w fun e w' => e = .returned (.tuple #[]) ∧ ∃ L, L.Perm ts ∧ L.Pairwise leK ∧ OwnR w' (.slice (some ⟨g, 0, none⟩) n cap) L (some g) ∧ w.grownBy w' (some g) := by
  rcases ho with ⟨h0, _, _⟩ | ⟨g', cap', e, e2, hg, h1, h2, h3, h4, h5⟩
  · simp at h0
  simp at e
  subst e
  injection e2 with _ e3 e4
  subst e3 e4
  obtain ⟨d, hd⟩ : ∃ d : Array RK, d = (toK ts hok).toArray := ⟨_, rfl⟩
  have hdl : d.toList.map (·.1) = ts := by rw [hd]; exact toK_val ts hok
  have hds : d.size = ts.length := by rw [hd]; simp [toK_len]
  have hH : HoldsK encK 7 w g 0 d := fun j hj => by
    rw [size_flatK, hds] at hj
    rw [Nat.zero_add]
    refine ⟨?_, h3 j (by omega)⟩
    rw [h5 j (by omega), ← hdl]
    exact (flat_at d j (by omega)).symm
  have eg : ∀ args w, (callFunc 20 args).run Try.prog w = .ok (.enter 20 args) w := enters_of Try.func20 (by kernel_rfl) rfl
  have hcon := AnyQ.slices_SortFunc Try.sortRec 7 agg_rec size_rec encK (fun _ => rfl) (fun x v hv => rcells_one [x.1] v (by simpa [rcells, encK] using hv)) cfK swoK 20 #[] g 0 cap d w eg (cmpLaysK g 0 d.size w) hH hg (by omega)
  rw [hds] at hcon
  refine Calls.mono hcon ?_
  rintro e w' ⟨rfl, d', m, os, hp, hs, rfl⟩
  have hsz : d'.size = d.size := hp.1
  have hsz' : d'.size = ts.length := hsz.trans hds
  refine ⟨rfl, d'.toList.map (·.1), ?_, ?_, ?_, ?_⟩
  · have h9 := hp.2.2
    rw [← hds] at h9
    rw [Array.extract_size] at h9
    rw [← hsz, Array.extract_size] at h9
    have := h9.map (·.1)
    rwa [hdl] at this
  · rw [List.pairwise_iff_getElem]
    intro i j hi hj hij
    have hj' : j < d'.size := by simpa using hj
    have h9 := hs i j (Nat.zero_le _) hij (by omega)
    rw [getElem!_pos d' j hj', getElem!_pos d' i (by omega)] at h9
    simp only [List.getElem_map, Array.getElem_toList]
    exact h9
  · have hHd := holdsK_sortWorldK_c encK 7 w g 0 d d' m os hH hg hsz
    have hcell : ∀ t, 7 * ts.length ≤ t → (sortWorldK encK 7 w g 0 m d' os).cell? ⟨g, t, none⟩ = w.cell? ⟨g, t, none⟩ := fun t ht => by
      unfold sortWorldK
      rw [cell?_grow _ _ _ (by unfold putRowK; rw [size_putRow]; exact hg)]
      unfold putRowK
      rw [cell?_putRow_other _ _ _ _ _ _ (.inr (.inr (by rw [size_flatK, hsz']; simp only; omega)))]
      rfl
    have hfz : ∀ t, (sortWorldK encK 7 w g 0 m d' os).frozen? ⟨g, t, none⟩ = w.frozen? ⟨g, t, none⟩ := fun t => by
      unfold sortWorldK
      rw [frozen?_grow _ _ _ (by unfold putRowK; rw [size_putRow]; exact hg)]
      unfold putRowK
      rw [frozen?_putRow]
      rfl
    have hin : ∀ t, t < 7 * ts.length → (sortWorldK encK 7 w g 0 m d' os).cell? ⟨g, t, none⟩ = (rcells (d'.toList.map (·.1)))[t]? := fun t ht => by
      have h9 := (hHd t (by rw [size_flatK, hsz']; omega)).1
      rw [Nat.zero_add] at h9
      rw [h9]
      exact flat_at d' t (by omega)
    refine .inr ⟨g, cap, rfl, by simp [hsz'], lt_sortWorldK encK 7 w g 0 m d' os hg, by simpa [hsz'] using h1, h2, fun t ht => by rw [hfz]; exact h3 t ht, fun t ht => ?_, fun t ht => hin t (by simpa [hsz'] using ht)⟩
    by_cases htl : t < 7 * ts.length
    · rw [hin t htl, List.getElem?_eq_getElem (by rw [rcells_len]; simp [hsz']; omega)]; rfl
    · rw [hcell t (by omega)]; exact h4 t ht
  · refine ⟨rfl, rfl, rfl, ?_, fun k hk hne => heap_sort w g m d' os k hk (fun e => hne (by rw [e]))⟩
    unfold sortWorldK
    rw [size_grow]
    unfold putRowK
    rw [size_putRow]
    show w.heap.size ≤ w.heap.size + _
    omega

/-- Nothing is sorted. -/
theorem insNil (v : Value) (f : Value) (w : World) : Calls Try.prog 33 #[v, .int .i64 0, .int .i64 0, f] w fun e w' => e = .returned (.tuple #[]) ∧ w' = w := by
  go_enter Try.func33, Try.ntmps33
  go_wp2
  refine wp_loop_rounds 1 ?_
  rw [rounds_succ]
  go_wp2
  go_end0
  exact ⟨rfl, rfl⟩
theorem pdqNil (v : Value) (l : Int) (f : Value) (w : World) : Calls Try.prog 27 #[v, .int .i64 0, .int .i64 0, .int .i64 l, f] w fun e w' => e = .returned (.tuple #[]) ∧ w' = w := by
  go_enter Try.func27, Try.ntmps27
  go_wp2
  refine wp_loop_rounds 1 ?_
  rw [rounds_succ]
  go_wp2_with fail
  refine (insNil _ _ _).mono ?_
  rintro e w' ⟨rfl, rfl⟩
  go_wp2
  refine bodyPost_ret (results_none rfl _ _ _) rfl ?_
  exact ⟨rfl, rfl⟩
theorem lenNil (w : World) : Calls Try.prog 28 #[.int .u64 0] w fun e w' => ∃ l : Int, e = .returned (.int .i64 l) ∧ w' = w := by
  have := Any.bits_Len (SlLaysF0.n15.bits (P := Try.prog) (ρ := Try.sortRec_ren) { Try.sortRec with }) 0 w (by omega) (by omega)
  exact this.mono fun _ _ ⟨he, hw⟩ => ⟨_, he, hw⟩
theorem sortNil (w : World) : Calls Try.prog 19 #[.slice none 0 0, fnCmp] w fun e w' => e = .returned (.tuple #[]) ∧ w' = w := by
  go_enter Try.func19, Try.ntmps19
  go_wp2_with fail
  refine (lenNil _).mono ?_
  rintro e w' ⟨l, rfl, rfl⟩
  go_wp2_with fail
  refine (pdqNil _ l _ _).mono ?_
  rintro e w' ⟨rfl, rfl⟩
  go_wp2
  go_end0
  exact ⟨rfl, rfl⟩

theorem sortOk : SortOk := fun v ts r w ho hok hl => by
  rcases ho with ⟨rfl, rfl, rfl⟩ | ⟨g, cap, rfl, rfl, hg, h1, h2, h3, h4, h5⟩
  · exact (sortNil w).mono fun _ _ ⟨he, hw⟩ => ⟨he, [], List.Perm.refl _, List.Pairwise.nil, by rw [hw]; exact OwnR.nil _, by rw [hw]; exact below_grow (RowKit.Below.refl _ _) _⟩
  · exact @sortSome ⟨noneK⟩ g ts.length cap ts w (.inr ⟨g, cap, rfl, rfl, hg, h1, h2, h3, h4, h5⟩) hok hl
end Go.Proofs.Ytpdhkojiehifeaa
