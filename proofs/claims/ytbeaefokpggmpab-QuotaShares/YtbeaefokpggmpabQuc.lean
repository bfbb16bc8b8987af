import Derived.Test.YtbeaefokpggmpabQub
/-! quota: the document's Spread. -/
namespace Go.Proofs.Ytbeaefokpggmpab
open Go.RowKit
set_option linter.unusedVariables false

structure SpOk (total : Int) (l : List Int) : Prop where
  len : l.length ≤ 64
  t0 : 0 ≤ total
  t1 : total ≤ 1099511627776
  ws : ∀ a ∈ l, 0 ≤ a ∧ a ≤ 1048576
  all : l.sum ≠ 0
/-- The whole parts, and the remainders. -/
def quoL (total W : Int) (l : List Int) : List Int := l.map fun a => total * a / W
def remL (total W : Int) (l : List Int) : List Int := l.map fun a => total * a % W
/-- Does the place k come ahead of the place i? -/
def comes (r : List Int) (i k : Nat) : Bool := decide (r.getD i 0 < r.getD k 0 ∨ (r.getD k 0 = r.getD i 0 ∧ k < i))
def aheadN (r : List Int) (i n : Nat) : Nat := ((List.range n).filter (comes r i)).length
def spreadL (total W : Int) (l : List Int) : List Int :=
  (List.range l.length).map fun i => (quoL total W l).getD i 0 + (if (aheadN (remL total W l) i l.length : Int) < total - (quoL total W l).sum then 1 else 0)
def SpPost (total : Int) (l : List Int) (w : World) (e : Ending) (w' : World) : Prop :=
  (SpOk total l → ∃ (v : Value) (r : Option Nat), e = .returned (.tuple #[v, .int .i64 0]) ∧ OwnL w' v (spreadL total l.sum l) r ∧ ∀ g, r = some g → w.heap.size ≤ g) ∧
  (¬ SpOk total l → e = .returned (.tuple #[.slice none 0 0, .int .i64 131])) ∧ Below w.heap.size w w'
theorem SpPost.bad {total : Int} {l : List Int} {w w' : World} (h : ¬ SpOk total l) (hb : Below w.heap.size w w') : SpPost total l w (.returned (.tuple #[.slice none 0 0, .int .i64 131])) w' :=
  ⟨fun k => absurd k h, fun _ => rfl, hb⟩
theorem hresRspread : Try.f15.results = #[.tmp 4, .tmp 5] := by kernel_rfl
def WOk (l : List Int) : Prop := ∀ a ∈ l, 0 ≤ a ∧ a ≤ 1048576
theorem sum_snoc (l : List Int) (k : Nat) (h : k < l.length) : (l.take (k + 1)).sum = (l.take k).sum + l.getD k 0 := by
  rw [take_snocI l k h, List.sum_append]; simp
theorem sum_small {l : List Int} : ∀ k, k ≤ l.length → WOk (l.take k) → 0 ≤ (l.take k).sum ∧ (l.take k).sum ≤ 1048576 * (k : Int)
  | 0, _, _ => by simp
  | k + 1, hk, h => by
    rw [take_snocI l k (by omega)] at h
    have h1 := sum_small k (by omega) (fun a ha => h a (List.mem_append_left _ ha))
    have h2 := h (l.getD k 0) (List.mem_append_right _ (by simp))
    rw [sum_snoc l k (by omega)]
    omega
theorem quo_bound {total a W : Int} (h0 : 0 ≤ total) (h1 : total ≤ 1099511627776) (ha : 0 ≤ a) (ha1 : a ≤ 1048576) (hW : 0 < W) : 0 ≤ total * a ∧ total * a ≤ 1152921504606846976 ∧ 0 ≤ total * a / W ∧ total * a / W ≤ 1152921504606846976 ∧ 0 ≤ total * a % W ∧ total * a % W ≤ 1152921504606846976 ∧ total * a % W < W := by
  have h := mul_le_of h0 ha h1 ha1
  have e1 := Int.ediv_nonneg h.1 (by omega : 0 ≤ W)
  have e2 := Int.ediv_le_self W h.1
  have e3 := Int.emod_nonneg (total * a) (by omega : W ≠ 0)
  have e4 := Int.emod_lt_of_pos (total * a) hW
  have e5 := Int.mul_ediv_add_emod (total * a) W
  have e6 : total * a % W ≤ total * a := by
    have : 0 ≤ W * (total * a / W) := Int.mul_nonneg (by omega) e1
    omega
  omega

theorem mem_le_sum {l : List Int} (h : WOk l) {a : Int} (ha : a ∈ l) : a ≤ l.sum := by
  have hn : ∀ k : List Int, WOk k → 0 ≤ k.sum := fun k hk => by
    have := (sum_small (l := k) k.length (Nat.le_refl _) (by rw [List.take_length]; exact hk)).1
    rwa [List.take_length] at this
  induction l with
  | nil => simp at ha
  | cons b l ih =>
    have hl : WOk l := fun c hc => h c (List.mem_cons_of_mem _ hc)
    have hb := h b (List.mem_cons_self ..)
    have h0 := hn l hl
    rw [List.sum_cons]
    rcases List.mem_cons.mp ha with rfl | hc
    · omega
    · have := ih hl hc; omega
theorem quo_le {total a W : Int} (h0 : 0 ≤ total) (haW : a ≤ W) (hW : 0 < W) : total * a / W ≤ total := by
  have h : total * a ≤ total * W := Int.mul_le_mul_of_nonneg_left haW h0
  have : total * a / W ≤ total * W / W := Int.ediv_le_ediv hW h
  rwa [Int.mul_ediv_cancel _ (by omega : W ≠ 0)] at this
theorem quoL_snoc (total W : Int) (l : List Int) (k : Nat) (h : k < l.length) : quoL total W (l.take (k + 1)) = quoL total W (l.take k) ++ [total * l.getD k 0 / W] := by
  unfold quoL; rw [take_snocI l k h]; simp
theorem remL_snoc (total W : Int) (l : List Int) (k : Nat) (h : k < l.length) : remL total W (l.take (k + 1)) = remL total W (l.take k) ++ [total * l.getD k 0 % W] := by
  unfold remL; rw [take_snocI l k h]; simp
theorem quoL_len (total W : Int) (l : List Int) : (quoL total W l).length = l.length := by simp [quoL]
theorem remL_len (total W : Int) (l : List Int) : (remL total W l).length = l.length := by simp [remL]
theorem ahead_succ (r : List Int) (i n : Nat) : aheadN r i (n + 1) = aheadN r i n + (if comes r i n = true then 1 else 0) := by
  unfold aheadN
  rw [List.range_succ, List.filter_append, List.length_append]
  simp only [List.filter_cons, List.filter_nil]
  split <;> simp
theorem ahead_le (r : List Int) (i n : Nat) : aheadN r i n ≤ n := by
  unfold aheadN
  have := List.length_filter_le (comes r i) (List.range n)
  simpa using this
/-- The places below i have got what they get. -/
def curL (ql : List Int) (c : Nat → Bool) (i : Nat) : List Int := (List.range ql.length).map fun j => ql.getD j 0 + (if j < i ∧ c j = true then 1 else 0)
theorem curL_len (ql : List Int) (c : Nat → Bool) (i : Nat) : (curL ql c i).length = ql.length := by simp [curL]
theorem curL_get (ql : List Int) (c : Nat → Bool) (i : Nat) {j : Nat} (h : j < ql.length) : (curL ql c i).getD j 0 = ql.getD j 0 + (if j < i ∧ c j = true then 1 else 0) := by
  simp [curL, List.getD_eq_getElem?_getD, h]
theorem list_ext_getD {A B : List Int} (h : A.length = B.length) (k : ∀ j, j < A.length → A.getD j 0 = B.getD j 0) : A = B := by
  refine List.ext_getElem h fun j h1 h2 => ?_
  have := k j h1
  rwa [List.getD_eq_getElem?_getD, List.getD_eq_getElem?_getD, List.getElem?_eq_getElem h1, List.getElem?_eq_getElem h2] at this
theorem curL_zero (ql : List Int) (c : Nat → Bool) : curL ql c 0 = ql := list_ext_getD (curL_len _ _ _) fun j hj => by
  rw [curL_len] at hj
  rw [curL_get _ _ _ hj]; simp
theorem curL_up (ql : List Int) (c : Nat → Bool) (i : Nat) (hi : i < ql.length) (hc : c i = true) : curL ql c (i + 1) = (curL ql c i).set i (ql.getD i 0 + 1) := list_ext_getD (by simp [curL_len]) fun j hj => by
  rw [curL_len] at hj
  rw [curL_get _ _ _ hj, getD_set _ _ _ _ (by rw [curL_len]; exact hj), curL_get _ _ _ hj]
  by_cases e : i = j
  · subst e; simp [hc]
  · rw [if_neg e]
    have : (j < i + 1) = (j < i) := by apply propext; omega
    simp only [this]
theorem curL_down (ql : List Int) (c : Nat → Bool) (i : Nat) (hc : c i = false) : curL ql c (i + 1) = curL ql c i := list_ext_getD (by simp [curL_len]) fun j hj => by
  rw [curL_len] at hj
  rw [curL_get _ _ _ hj, curL_get _ _ _ hj]
  by_cases e : i = j
  · subst e; simp [hc]
  · have : (j < i + 1) = (j < i) := by apply propext; omega
    simp only [this]
theorem curL_all (total W : Int) (l : List Int) : curL (quoL total W l) (fun i => decide ((aheadN (remL total W l) i l.length : Int) < total - (quoL total W l).sum)) l.length = spreadL total W l := list_ext_getD (by simp [curL_len, spreadL, quoL_len]) fun j hj => by
  rw [curL_len, quoL_len] at hj
  rw [curL_get _ _ _ (by rw [quoL_len]; exact hj)]
  simp [spreadL, List.getD_eq_getElem?_getD, hj]
/-- Two rows of the call's own behind a world. -/
structure Two (w1 w : World) (va vb : Value) (A B : List Int) (ra rb : Option Nat) : Prop where
  bel : Below w1.heap.size w1 w
  a : OwnL w va A ra
  b : OwnL w vb B rb
  fa : ∀ g, ra = some g → w1.heap.size ≤ g
  fb : ∀ g, rb = some g → w1.heap.size ≤ g
  ap : ∀ g, ra = some g → rb ≠ some g
theorem Two.later {w1 w w' : World} {va vb : Value} {A B : List Int} {ra rb : Option Nat} (h : Two w1 w va vb A B ra rb) (k : Below w.heap.size w w') : Two w1 w' va vb A B ra rb :=
  ⟨h.bel.trans (k.mono h.bel.size), h.a.later k, h.b.later k, h.fa, h.fb, h.ap⟩
theorem Two.moreA {w1 w w' : World} {va vb va' : Value} {A B A' : List Int} {ra rb ra' : Option Nat} (h : Two w1 w va vb A B ra rb) (ho : OwnL w' va' A' ra') (hg : w.grownBy w' ra) (hr : ra' = ra ∨ ra' = some w.heap.size) : Two w1 w' va' vb A' B ra' rb := by
  refine ⟨h.bel.grown hg h.bel.size h.fa, ho, ?_, fun g e => ?_, h.fb, fun g e => ?_⟩
  · refine h.b.kept hg ?_
    cases rb with
    | none => exact .inl rfl
    | some g => exact .inr (fun e => h.ap g e.symm rfl)
  · rcases hr with rfl | rfl
    · exact h.fa g e
    · simp at e; have := h.bel.size; omega
  · rcases hr with rfl | rfl
    · exact h.ap g e
    · simp at e; subst e
      intro e2
      have hk := h.b
      rw [e2] at hk
      have := hk.lt
      omega
theorem Two.setA {w1 w : World} {g n cap : Nat} {vb : Value} {A B : List Int} {rb : Option Nat} (h : Two w1 w (.slice (some ⟨g, 0, none⟩) n cap) vb A B (some g) rb) (i : Nat) (hi : i < A.length) (x : Int) (hx : I64 x) : Two w1 (w.setCell ⟨g, i, none⟩ (.int .i64 x)) (.slice (some ⟨g, 0, none⟩) n cap) vb (A.set i x) B (some g) rb := by
  refine ⟨h.bel.setCell (p := ⟨g, i, none⟩) (h.fa g rfl) _, h.a.set i hi x hx, ?_, h.fa, h.fb, h.ap⟩
  refine h.b.kept (grow_setCells w g i [.int .i64 x]) ?_
  cases rb with
  | none => exact .inl rfl
  | some q => exact .inr (fun e => h.ap g rfl e)
theorem Two.swap {w1 w : World} {va vb : Value} {A B : List Int} {ra rb : Option Nat} (h : Two w1 w va vb A B ra rb) : Two w1 w vb va B A rb ra :=
  ⟨h.bel, h.b, h.a, h.fb, h.fa, fun g e e2 => h.ap g e2 e⟩
theorem Two.moreB {w1 w w' : World} {va vb vb' : Value} {A B B' : List Int} {ra rb rb' : Option Nat} (h : Two w1 w va vb A B ra rb) (ho : OwnL w' vb' B' rb') (hg : w.grownBy w' rb) (hr : rb' = rb ∨ rb' = some w.heap.size) : Two w1 w' va vb' A B' ra rb' :=
  (h.swap.moreA ho hg hr).swap

set_option maxHeartbeats 4000000 in
set_option maxRecDepth 1000000 in
theorem rspreadOf (total : Int) (v : Value) (l : List Int) (w : World) (ht : I64 total) (h : NumsAt w v l) : Calls Try.prog 15 #[.int .i64 total, v] w (SpPost total l w) := by
  obtain ⟨a, cap, rfl, hm⟩ := h.shp
  have HN : Hid (NumsAt w (.slice a l.length cap) l) := h
  unfold maxLen at hm
  by_cases hlen : 64 < l.length
  · have HB : Hid (¬ SpOk total l) := fun k => by have := k.len; omega
    have hli : (64 : Int) < (l.length : Int) := by omega
    clear h
    go_enter Try.func15, Try.ntmps15
    go_wp2
    refine bodyPost_ret (v := .tuple #[.slice none 0 0, .int .i64 131]) ?_ rfl (SpPost.bad HB.out (Below.refl _ _))
    simp only [results, hresRspread]
    go_simp
  have hli : ¬ (64 : Int) < (l.length : Int) := by omega
  cases hr : inR total 0 1099511627776 with
  | false =>
    have HB : Hid (¬ SpOk total l) := fun k => inR_not hr ⟨k.t0, k.t1⟩
    clear h
    go_enter Try.func15, Try.ntmps15
    go_wp2_with fail
    refine (rwithinOf total 0 1099511627776 _).mono ?_
    rintro e w1 ⟨rfl, rfl⟩
    go_wp2
    refine bodyPost_ret (v := .tuple #[.slice none 0 0, .int .i64 131]) ?_ rfl (SpPost.bad HB.out (Below.refl _ _))
    simp only [results, hresRspread]
    go_simp
  | true =>
  have hto := inR_is hr
  clear h
  go_enter Try.func15, Try.ntmps15
  go_wp2_with fail
  refine (rwithinOf total 0 1099511627776 _).mono ?_
  rintro e w1 ⟨rfl, rfl⟩
  go_wp2
  go_loopw [6, 7] (fun s6 s7 wr => ∃ k : Nat, k ≤ l.length ∧ s7 = .int .i64 k ∧ s6 = .int .i64 ((l.take k).sum) ∧ Hid (WOk (l.take k)) ∧ Hid (Below w1.heap.size w1 wr)) (fun _ i _ => l.length - (intOf i).toNat)
  case atStart => exact ⟨0, by omega, rfl, rfl, fun a ha => by simp at ha, Below.refl _ _⟩
  case round =>
    obtain ⟨k, hk, rfl, rfl, HO, HBF⟩ := hrel
    by_cases hA : k < l.length
    · obtain ⟨b, off, cap', e, hc⟩ := HN.out.get hA
      simp only [Value.slice.injEq] at e
      obtain ⟨rfl, -, rfl⟩ := e
      have c0 := hc _ HBF.out
      have hki : (k : Int) < (l.length : Int) := by omega
      have hss := sum_small k hk HO.out
      have HSN : Hid ((l.take (k + 1)).sum = (l.take k).sum + l.getD k 0) := sum_snoc l k hA
      cases hx : inR (l.getD k 0) 0 1048576 with
      | false =>
        have HB : Hid (¬ SpOk total l) := fun q => inR_not hx (q.ws _ (getD_mem hA))
        generalize l.getD k 0 = x at *
        generalize (l.take k).sum = S at *
        clear hc
        go_wp2_with fail
        refine (rwithinOf x 0 1048576 _).mono ?_
        rintro e w2 ⟨rfl, rfl⟩
        go_wp2
        refine bodyPost_ret (v := .tuple #[.slice none 0 0, .int .i64 131]) ?_ rfl (SpPost.bad HB.out HBF.out)
        simp only [results, hresRspread]
        go_simp
      | true =>
        have HO2 : Hid (WOk (l.take (k + 1))) := by
          unfold Hid
          rw [take_snocI l k hA]
          intro a ha
          rcases List.mem_append.mp ha with h1 | h1
          · exact HO.out a h1
          · rw [List.mem_singleton] at h1; subst h1; exact inR_is hx
        have hxb := inR_is hx
        generalize l.getD k 0 = x at *
        generalize (l.take k).sum = S at *
        have hw1 : wrap64 (S + x) = S + x := by unfold wrap64; omega
        clear hc
        go_wp2_with fail
        refine (rwithinOf x 0 1048576 _).mono ?_
        rintro e w2 ⟨rfl, rfl⟩
        go_wp2
        go_roundw
        case rel => exact ⟨k + 1, by omega, by go_num, by rw [HSN.out], HO2, HBF⟩
        case measure => simp [intOf]; omega
    · have hki : ¬ (k : Int) < (l.length : Int) := by omega
      have hke : k = l.length := by omega
      subst hke
      have hss := sum_small l.length (Nat.le_refl _) HO.out
      rw [List.take_length] at HO hss
      rw [List.take_length]
      by_cases hz : l.sum = 0
      · have HB : Hid (¬ SpOk total l) := fun q => q.all hz
        have hz2 : (l.sum == 0) = true := by simpa using hz
        clear hz
        generalize l.sum = W at *
        go_wp2
        refine bodyPost_ret (v := .tuple #[.slice none 0 0, .int .i64 131]) ?_ rfl (SpPost.bad HB.out HBF.out)
        simp only [results, hresRspread]
        go_simp
      · have HK : Hid (SpOk total l) := ⟨by omega, hto.1, hto.2, HO.out, hz⟩
        have hz2 : (l.sum == 0) = false := by simpa using hz
        have hWp : 0 < l.sum := by omega
        have HW : Hid (∃ W, W = l.sum) := ⟨_, rfl⟩
        obtain ⟨W, hWe⟩ := HW.out
        rw [← hWe] at hz2 hz hWp hss ⊢
        have HWE : Hid (W = l.sum) := hWe
        clear hWe
        have HQ : Hid (∀ k, k < l.length → 0 ≤ l.getD k 0 ∧ l.getD k 0 ≤ 1048576 ∧ l.getD k 0 ≤ W) := fun k hk => by
          have h1 := HO.out _ (getD_mem hk)
          have h2 := mem_le_sum HO.out (getD_mem hk)
          have := HWE.out
          omega
        go_wp2
        go_loopw [8, 9, 10, 11] (fun s8 s9 s10 s11 wq => ∃ (k : Nat) (lf : Int) (a8 a9 : Option Addr) (c8 c9 : Nat) (r8 r9 : Option Nat) (A B : List Int), k ≤ l.length ∧ s11 = .int .i64 k ∧ s10 = .int .i64 lf ∧ s8 = .slice a8 A.length c8 ∧ s9 = .slice a9 B.length c9 ∧ Hid (A = quoL total W (l.take k)) ∧ Hid (B = remL total W (l.take k)) ∧ Hid (lf = total - (quoL total W (l.take k)).sum) ∧ -1099511627776 * (k : Int) ≤ lf ∧ lf ≤ 1099511627776 ∧ Hid (Two w1 wq s8 s9 A B r8 r9)) (fun _ _ _ i _ => l.length - (intOf i).toNat)
        case atStart => exact ⟨0, total, none, none, 0, 0, none, none, [], [], by omega, rfl, rfl, rfl, rfl, rfl, rfl, by unfold Hid; simp [quoL], by omega, hto.2, ⟨HBF.out, OwnL.nil _, OwnL.nil _, by simp, by simp, by simp⟩⟩
        case round =>
          obtain ⟨k, lf, a8, a9, c8, c9, r8, r9, A, B, hk, rfl, rfl, rfl, rfl, HA8, HB9, HLF, hlf0, hlf1, H2⟩ := hrel
          by_cases hA : k < l.length
          · obtain ⟨b, off, cap', e, hc⟩ := HN.out.get hA
            simp only [Value.slice.injEq] at e
            obtain ⟨rfl, -, rfl⟩ := e
            have HC0 : Hid (∀ u, Below w1.heap.size w1 u → u.cell? ⟨b, off + k, none⟩ = some (.int .i64 (l.getD k 0))) := hc
            have c0 := hc wr H2.out.bel
            have hq := HQ.out k hA
            have hki : (k : Int) < (l.length : Int) := by omega
            have HS1 := quoL_snoc total W l k hA
            have HS2 := remL_snoc total W l k hA
            have hqb := quo_bound hto.1 hto.2 hq.1 hq.2.1 hWp
            have hql := quo_le hto.1 hq.2.2 hWp
            have HAL : Hid (A.length = k) := by unfold Hid; rw [HA8.out, quoL_len]; simp; omega
            have HBL : Hid (B.length = k) := by unfold Hid; rw [HB9.out, remL_len]; simp; omega
            have HA2 : Hid (A ++ [total * l.getD k 0 / W] = quoL total W (l.take (k + 1))) := by unfold Hid; rw [HS1, HA8.out]
            have HB2 : Hid (B ++ [total * l.getD k 0 % W] = remL total W (l.take (k + 1))) := by unfold Hid; rw [HS2, HB9.out]
            have HL2 : Hid (lf - total * l.getD k 0 / W = total - (quoL total W (l.take (k + 1))).sum) := by unfold Hid; rw [HS1, HLF.out, List.sum_append]; simp; omega
            generalize l.getD k 0 = x at *
            clear hc HS1 HS2 hq
            have hw1 : wrap64 (total * x) = total * x := by unfold wrap64; omega
            have hd1 : Int.tdiv (total * x) W = total * x / W := Int.tdiv_eq_ediv_of_nonneg hqb.1
            have hd2 : Int.tmod (total * x) W = total * x % W := Int.tmod_eq_emod_of_nonneg hqb.1
            obtain ⟨q, hqe⟩ : ∃ q, total * x / W = q := ⟨_, rfl⟩
            obtain ⟨m, hme⟩ : ∃ m, total * x % W = m := ⟨_, rfl⟩
            rw [hqe] at hd1 hqb hql HA2 HL2
            rw [hme] at hd2 hqb HB2
            have hw2 : wrap64 q = q := by unfold wrap64; omega
            have hw3 : wrap64 m = m := by unfold wrap64; omega
            have hw4 : wrap64 (lf - q) = lf - q := by unfold wrap64; omega
            have HIQ : Hid (I64 q) := by unfold Hid I64; omega
            have HIM : Hid (I64 m) := by unfold Hid I64; omega
            have HLNA : Hid (A.length + [q].length ≤ 20000000000000) := by have := HAL.out; unfold Hid; simp; omega
            have HLNB : Hid (B.length + [m].length ≤ 20000000000000) := by have := HBL.out; unfold Hid; simp; omega
            go_wp2_with (first | (at_builtin; refine wpList_append_l _ rfl _ _ 22 22 rfl Try.underlying22 _ _ A [q] r8 rfl rfl ?hOwn ?hByte ?hSrc ?hLen ?_) | fail)
            case hOwn => exact H2.out.a.later ((Below.refl _ _).alloc (Nat.le_refl _) _)
            case hByte => first | exact HIQ.out | (intro c hc; rw [List.mem_singleton] at hc; subst hc; exact HIQ.out)
            case hSrc => exact src_l wr q
            case hLen => exact HLNA.out
            intro v7 w7 r7 ho7 hg7 hr7 hn7
            obtain ⟨a7, c7, rfl⟩ := ho7.shp
            have H7 : Hid (Two w1 w7 (.slice a7 (A ++ [q]).length c7) (.slice a9 B.length c9) (A ++ [q]) B r7 r9) := (H2.out.later ((Below.refl _ _).alloc (Nat.le_refl _) _)).moreA ho7 hg7 (by simpa using hr7)
            clear ho7 hg7 hr7 hn7 c0
            have c0 := HC0.out w7 H7.out.bel
            go_wp2_with (first | (at_builtin; refine wpList_append_l _ rfl _ _ 22 22 rfl Try.underlying22 _ _ B [m] r9 rfl rfl ?hOwn ?hByte ?hSrc ?hLen ?_) | fail)
            case hOwn => exact H7.out.b.later ((Below.refl _ _).alloc (Nat.le_refl _) _)
            case hByte => first | exact HIM.out | (intro c hc; rw [List.mem_singleton] at hc; subst hc; exact HIM.out)
            case hSrc => exact src_l w7 m
            case hLen => exact HLNB.out
            intro v8 w8 r8' ho8 hg8 hr8 hn8
            obtain ⟨a8', c8', rfl⟩ := ho8.shp
            have H8 : Hid (Two w1 w8 (.slice a7 (A ++ [q]).length c7) (.slice a8' (B ++ [m]).length c8') (A ++ [q]) (B ++ [m]) r7 r8') := (H7.out.later ((Below.refl _ _).alloc (Nat.le_refl _) _)).moreB ho8 hg8 (by simpa using hr8)
            clear ho8 hg8 hr8 hn8 c0
            obtain ⟨bl, ol, cl, el, hcl⟩ := H8.out.a.nums.get (k := k) (by have := HAL.out; simp; omega)
            simp only [Value.slice.injEq] at el
            obtain ⟨rfl, -, rfl⟩ := el
            have c1 := hcl w8 (Below.refl _ _)
            have hgk : (A ++ [q]).getD k 0 = q := by have := HAL.out; subst this; exact (by simp [List.getD_eq_getElem?_getD])
            rw [hgk] at c1
            have hk1 : (k : Int) < (A.length : Int) + 1 := by have := HAL.out; omega
            have hk2 : k < A.length + 1 := by have := HAL.out; omega
            clear hcl hgk
            go_wp2
            go_roundw
            case rel => exact ⟨k + 1, lf - q, some ⟨bl, ol, none⟩, a8', c7, c8', r7, r8', A ++ [q], B ++ [m], by omega, by go_num, rfl, by simp, by simp, HA2, HB2, HL2, by omega, by omega, by simpa using H8⟩
            case measure => simp [intOf]; omega
          · have hki : ¬ (k : Int) < (l.length : Int) := by omega
            have hke : k = l.length := by omega
            subst hke
            rw [List.take_length] at HA8 HB9 HLF
            have hAe := HA8.out
            have hBe := HB9.out
            subst hAe hBe
            have hlq : (quoL total W l).length = l.length := quoL_len _ _ _
            have hlr : (remL total W l).length = l.length := remL_len _ _ _
            have HCZ : Hid (curL (quoL total W l) (fun i => decide ((aheadN (remL total W l) i l.length : Int) < lf)) 0 = quoL total W l) := curL_zero _ _
            have HCA : Hid (curL (quoL total W l) (fun i => decide ((aheadN (remL total W l) i l.length : Int) < lf)) l.length = spreadL total W l) := by unfold Hid; rw [HLF.out]; exact curL_all total W l
            have HQS : Hid (∀ j, j < l.length → 0 ≤ (quoL total W l).getD j 0 ∧ (quoL total W l).getD j 0 ≤ 1099511627776) := fun j hj => by
              have hq := HQ.out j hj
              have h1 := quo_bound hto.1 hto.2 hq.1 hq.2.1 hWp
              have h2 := quo_le hto.1 hq.2.2 hWp
              have e : (quoL total W l).getD j 0 = total * l.getD j 0 / W := by simp [quoL, List.getD_eq_getElem?_getD, hj]
              rw [e]
              omega
            generalize quoL total W l = Q at *
            generalize remL total W l = R at *
            have hpos : 0 < l.length := by
              rcases Nat.eq_zero_or_pos l.length with h | h
              · exfalso; rw [h] at hss; omega
              · exact h
            have HCE : Hid (∀ (u : World) (C : List Int), C.length = l.length → Two w1 u (.slice a8 Q.length c8) (.slice a9 R.length c9) C R r8 r9 → ∃ g8 b9 o9, a8 = some ⟨g8, 0, none⟩ ∧ r8 = some g8 ∧ a9 = some ⟨b9, o9, none⟩ ∧ g8 ≠ b9 ∧ (∀ j, j < l.length → u.cell? ⟨b9, o9 + j, none⟩ = some (.int .i64 (R.getD j 0)))) := fun u C hC h2 => by
              obtain ⟨b9, o9, cap9, e9, hc9⟩ := h2.b.nums.get (k := 0) (by omega)
              simp only [Value.slice.injEq] at e9
              obtain ⟨rfl, -, rfl⟩ := e9
              rcases h2.a.2 with ⟨_, e, _⟩ | ⟨g, cp, e0, e1, _⟩
              · rw [e] at hC; simp at hC; omega
              · simp only [Value.slice.injEq] at e1
                rcases h2.b.2 with ⟨e, _⟩ | ⟨g', cp', e0', e1', hg', _, _, _, _, hcc⟩
                · simp at e
                · simp only [Value.slice.injEq, Option.some.injEq, Addr.mk.injEq] at e1'
                  obtain ⟨⟨rfl, rfl, -⟩, -, -⟩ := e1'
                  exact ⟨g, b9, 0, e1.1, e0, rfl, fun e => h2.ap g e0 (by rw [e]; exact e0'), fun j hj => by rw [Nat.zero_add]; exact hcc j (by omega)⟩
            obtain ⟨g8, b9, o9, rfl, rfl, rfl, hgb, -⟩ := HCE.out wr Q (by omega) H2.out
            have HRC : Hid (∀ (u : World) (C : List Int) (j : Nat), C.length = l.length → j < l.length → Two w1 u (.slice (some ⟨g8, 0, none⟩) Q.length c8) (.slice (some ⟨b9, o9, none⟩) R.length c9) C R (some g8) r9 → u.cell? ⟨b9, o9 + j, none⟩ = some (.int .i64 (R.getD j 0))) := fun u C j hC hj h2 => by
              obtain ⟨g, b, o, e1, e2, e3, -, hc⟩ := HCE.out u C hC h2
              simp only [Option.some.injEq, Addr.mk.injEq] at e3
              obtain ⟨rfl, rfl, -⟩ := e3
              exact hc j hj
            have H2Z : Hid (Two w1 wr (.slice (some ⟨g8, 0, none⟩) Q.length c8) (.slice (some ⟨b9, o9, none⟩) R.length c9) (curL Q (fun i => decide ((aheadN R i l.length : Int) < lf)) 0) R (some g8) r9) := by unfold Hid; rw [HCZ.out]; exact H2.out
            clear H2 HCZ HCE HA8 HB9
            go_wp2
            go_loopw [12] (fun s12 wq => ∃ i : Nat, i ≤ l.length ∧ s12 = .int .i64 i ∧ Hid (Two w1 wq (.slice (some ⟨g8, 0, none⟩) Q.length c8) (.slice (some ⟨b9, o9, none⟩) R.length c9) (curL Q (fun i => decide ((aheadN R i l.length : Int) < lf)) i) R (some g8) r9)) (fun i _ => l.length - (intOf i).toNat)
            case atStart => exact ⟨0, by omega, rfl, H2Z⟩
            case round =>
              clear H2Z
              obtain ⟨i, hi, rfl, H3⟩ := hrel
              by_cases hI : i < l.length
              · have hii : (i : Int) < (l.length : Int) := by omega
                generalize hCU : curL Q (fun i => decide ((aheadN R i l.length : Int) < lf)) i = CU at *
                have HCL : Hid (CU.length = l.length) := by unfold Hid; rw [← hCU, curL_len]; omega
                go_wp2
                go_loopw [13, 14] (fun s13 s14 wq => ∃ n : Nat, n ≤ l.length ∧ s14 = .int .i64 n ∧ s13 = .int .i64 ((aheadN R i n : Nat) : Int) ∧ Hid (Two w1 wq (.slice (some ⟨g8, 0, none⟩) Q.length c8) (.slice (some ⟨b9, o9, none⟩) R.length c9) CU R (some g8) r9)) (fun _ i _ => l.length - (intOf i).toNat)
                case atStart => exact ⟨0, by omega, rfl, rfl, H3⟩
                case round =>
                  obtain ⟨n, hn, rfl, rfl, H4⟩ := hrel
                  by_cases hNl : n < l.length
                  · have hni : (n : Int) < (l.length : Int) := by omega
                    have c0 := HRC.out wr CU n HCL.out hNl H4.out
                    have c1 := HRC.out wr CU i HCL.out hI H4.out
                    have hrn : (n : Int) < (R.length : Int) := by omega
                    have hri : (i : Int) < (R.length : Int) := by omega
                    have hal := ahead_le R i n
                    have HAS := ahead_succ R i n
                    unfold comes at HAS
                    have hwa : wrap64 (((aheadN R i n : Nat) : Int) + 1) = ((aheadN R i n + 1 : Nat) : Int) := by unfold wrap64; omega
                    generalize aheadN R i n = AN at *
                    generalize R.getD n 0 = xn at *
                    generalize R.getD i 0 = xi at *
                    by_cases h1 : xi < xn
                    · have HAM : Hid (aheadN R i (n + 1) = AN + 1) := by unfold Hid; rw [HAS]; simp [h1]
                      clear HAS
                      have hd1 : decide (xi < xn) = true := by simpa using h1
                      go_wp2
                      go_quiet (fail)
                      have H5 : Hid (Two w1 (wr.drewN nq) (.slice (some ⟨g8, 0, none⟩) Q.length c8) (.slice (some ⟨b9, o9, none⟩) R.length c9) CU R (some g8) r9) := H4.out.later ⟨rfl, rfl, rfl, Nat.le_refl _, fun _ _ => rfl⟩
                      go_wp2
                      go_roundw
                      case rel => exact ⟨n + 1, by omega, by go_num, by rw [HAM.out]; try simp, H5⟩
                      case measure => simp [intOf]; omega
                    have hd1 : decide (xi < xn) = false := by simpa using h1
                    by_cases h2 : xn = xi
                    · have hd2 : (xn == xi) = true := by simpa using h2
                      by_cases h3 : n < i
                      · have HAM : Hid (aheadN R i (n + 1) = AN + 1) := by unfold Hid; rw [HAS]; simp [h2, h3]
                        have hd3 : decide ((n : Int) < (i : Int)) = true := by simp; omega
                        clear HAS h2
                        go_wp2
                        go_quiet (fail)
                        have H5 : Hid (Two w1 (wr.drewN nq) (.slice (some ⟨g8, 0, none⟩) Q.length c8) (.slice (some ⟨b9, o9, none⟩) R.length c9) CU R (some g8) r9) := H4.out.later ⟨rfl, rfl, rfl, Nat.le_refl _, fun _ _ => rfl⟩
                        go_wp2
                        go_roundw
                        case rel => exact ⟨n + 1, by omega, by go_num, by rw [HAM.out]; try simp, H5⟩
                        case measure => simp [intOf]; omega
                      · have HAM : Hid (aheadN R i (n + 1) = AN) := by unfold Hid; rw [HAS]; simp [h2]; omega
                        have hd3 : decide ((n : Int) < (i : Int)) = false := by simp; omega
                        clear HAS h2
                        go_wp2
                        go_quiet (fail)
                        have H5 : Hid (Two w1 (wr.drewN nq) (.slice (some ⟨g8, 0, none⟩) Q.length c8) (.slice (some ⟨b9, o9, none⟩) R.length c9) CU R (some g8) r9) := H4.out.later ⟨rfl, rfl, rfl, Nat.le_refl _, fun _ _ => rfl⟩
                        go_wp2
                        go_roundw
                        case rel => exact ⟨n + 1, by omega, by go_num, by rw [HAM.out]; try simp, H5⟩
                        case measure => simp [intOf]; omega
                    · have hd2 : (xn == xi) = false := by simpa using h2
                      have HAM : Hid (aheadN R i (n + 1) = AN) := by unfold Hid; rw [HAS]; simp [h2]; omega
                      clear HAS
                      go_wp2
                      go_quiet (fail)
                      have H5 : Hid (Two w1 (wr.drewN nq) (.slice (some ⟨g8, 0, none⟩) Q.length c8) (.slice (some ⟨b9, o9, none⟩) R.length c9) CU R (some g8) r9) := H4.out.later ⟨rfl, rfl, rfl, Nat.le_refl _, fun _ _ => rfl⟩
                      go_wp2
                      go_roundw
                      case rel => exact ⟨n + 1, by omega, by go_num, by rw [HAM.out]; try simp, H5⟩
                      case measure => simp [intOf]; omega
                  · have hni : ¬ (n : Int) < (l.length : Int) := by omega
                    have hne : n = l.length := by omega
                    subst hne
                    have hal := ahead_le R i l.length
                    have hcc := H4.out.a.cells (i := i) (by have := HCL.out; omega)
                    have hci : CU.getD i 0 = Q.getD i 0 := by rw [← hCU, curL_get _ _ _ (by omega)]; simp
                    rw [hci] at hcc
                    obtain ⟨c0, k0⟩ := hcc
                    have hqs := HQS.out i hI
                    have hqi : (i : Int) < (Q.length : Int) := by omega
                    have HUP := curL_up Q (fun i => decide ((aheadN R i l.length : Int) < lf)) i (by omega)
                    have HDN := curL_down Q (fun i => decide ((aheadN R i l.length : Int) < lf)) i
                    rw [hCU] at HUP HDN
                    by_cases hlt : (aheadN R i l.length : Int) < lf
                    · have HN5 : Hid (Two w1 (wr.setCell ⟨g8, i, none⟩ (.int .i64 (Q.getD i 0 + 1))) (.slice (some ⟨g8, 0, none⟩) Q.length c8) (.slice (some ⟨b9, o9, none⟩) R.length c9) (curL Q (fun i => decide ((aheadN R i l.length : Int) < lf)) (i + 1)) R (some g8) r9) := by
                        unfold Hid
                        rw [HUP (by simpa using hlt)]
                        exact H4.out.setA i (by have := HCL.out; omega) _ (by unfold I64; omega)
                      clear HUP HDN hCU
                      generalize Q.getD i 0 = qi at *
                      have hw1 : wrap64 (qi + 1) = qi + 1 := by unfold wrap64; omega
                      go_wp2
                      go_roundw
                      case rel => exact ⟨i + 1, by omega, by go_num, HN5⟩
                      case measure => simp [intOf]; omega
                    · have HN5 : Hid (Two w1 wr (.slice (some ⟨g8, 0, none⟩) Q.length c8) (.slice (some ⟨b9, o9, none⟩) R.length c9) (curL Q (fun i => decide ((aheadN R i l.length : Int) < lf)) (i + 1)) R (some g8) r9) := by
                        unfold Hid
                        rw [HDN (by simpa using hlt)]
                        exact H4.out
                      clear HUP HDN hCU
                      go_wp2
                      go_roundw
                      case rel => exact ⟨i + 1, by omega, by go_num, HN5⟩
                      case measure => simp [intOf]; omega
              · have hii : ¬ (i : Int) < (l.length : Int) := by omega
                have hie : i = l.length := by omega
                subst hie
                have HFI : Hid (SpPost total l w1 (.returned (.tuple #[.slice (some ⟨g8, 0, none⟩) Q.length c8, .int .i64 0])) wr) := by
                  refine ⟨fun _ => ⟨_, some g8, rfl, ?_, H3.out.fa⟩, fun h => absurd HK.out h, H3.out.bel⟩
                  rw [← HWE.out, ← HCA.out]
                  exact H3.out.a
                go_wp2
                refine bodyPost_ret (v := .tuple #[.slice (some ⟨g8, 0, none⟩) Q.length c8, .int .i64 0]) ?_ rfl HFI.out
                simp only [results, hresRspread]
                go_simp
end Go.Proofs.Ytbeaefokpggmpab
