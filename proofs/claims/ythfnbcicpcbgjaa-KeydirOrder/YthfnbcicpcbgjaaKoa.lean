import Derived.Test.YthfnbcicpcbgjaaKfc
import Derived.Test.YthfnbcicpcbgjaaKnb
/-! keydir: Rank and Nth. -/
namespace Go.Proofs.Ythfnbcicpcbgjaa
open Go.RowKit Plain
set_option linter.unusedVariables false
set_option linter.unusedSimpArgs false

def rankL (key : ByteArray) (l : List Ke) : Nat := (l.filter fun x => decide (kc x.key key = -1)).length
theorem rankL_le (key : ByteArray) (l : List Ke) : rankL key l ≤ l.length := List.length_filter_le ..
theorem rankL_app (key : ByteArray) (a b : List Ke) : rankL key (a ++ b) = rankL key a + rankL key b := by simp [rankL]
theorem rankL_cons (key : ByteArray) (x : Ke) (l : List Ke) : rankL key (x :: l) = (if kc x.key key = -1 then 1 else 0) + rankL key l := by
  by_cases h : kc x.key key = -1 <;> simp [rankL, List.filter_cons, h]
  omega
theorem rankL_all {key : ByteArray} {l : List Ke} (h : ∀ y ∈ l, kc y.key key = -1) : rankL key l = l.length := by
  unfold rankL
  rw [List.filter_eq_self.mpr (fun y hy => by simp [h y hy])]
theorem rankL_none {key : ByteArray} {l : List Ke} (h : ∀ y ∈ l, kc y.key key ≠ -1) : rankL key l = 0 := by
  unfold rankL
  rw [List.filter_eq_nil_iff.mpr (fun y hy => by simp [h y hy])]
  rfl
theorem rank_gt {key : ByteArray} {k : Ke} {ll lr : List Ke} (hs : Srt (ll ++ k :: lr)) (h : kc k.key key = -1) : rankL key (ll ++ k :: lr) = ll.length + 1 + rankL key lr := by
  rw [rankL_app, rankL_cons, if_pos h, rankL_all fun y hy => kc_trans (hs.parts.2.2.1 y hy) h]
  omega
theorem rank_le {key : ByteArray} {k : Ke} {ll lr : List Ke} (hs : Srt (ll ++ k :: lr)) (h : kc k.key key ≠ -1) : rankL key (ll ++ k :: lr) = rankL key ll := by
  have h2 : rankL key lr = 0 := rankL_none fun y hy h3 => h (kc_trans (hs.parts.2.2.2.1 y hy) h3)
  rw [rankL_app, rankL_cons, if_neg h, h2]
  omega
theorem rank_at {l : List Ke} (hs : Srt l) {i : Nat} (hi : i < l.length) : rankL (l.getD i Ke.zero).key l = i := by
  have e : l.getD i Ke.zero = l[i] := by rw [List.getD_eq_getElem?_getD, List.getElem?_eq_getElem hi]; rfl
  rw [e]
  have hp : l = l.take i ++ l[i] :: l.drop (i + 1) := by rw [← List.drop_eq_getElem_cons hi, List.take_append_drop]
  obtain ⟨x, hx⟩ : ∃ x, l[i] = x := ⟨_, rfl⟩
  rw [hx] at hp ⊢
  rw [hp] at hs ⊢
  rw [rank_le hs (by rw [kc_self]; decide), rankL_all hs.parts.2.2.1]
  simp; omega
theorem rank_found {l : List Ke} {key : ByteArray} (hs : Srt l) (h : (findL key l).isSome = true) : rankL key l < l.length ∧ (l.getD (rankL key l) Ke.zero).key = key := by
  obtain ⟨x, hx⟩ := Option.isSome_iff_exists.mp h
  obtain ⟨hm, rfl⟩ := findL_is hx
  obtain ⟨i, hi, hxi⟩ := List.mem_iff_getElem.mp hm
  have e : l.getD i Ke.zero = x := by rw [List.getD_eq_getElem?_getD, List.getElem?_eq_getElem hi]; exact hxi
  have hr := rank_at hs hi
  rw [e] at hr
  rw [hr, e]
  exact ⟨hi, rfl⟩

set_option maxHeartbeats 2000000 in
theorem rankOf {D : Nat → Prop} {gd : Nat} {l : List Ke} (key : ByteArray) (w : World) (h : DirAt D w gd l) (hk : key.size ≤ maxLen) (hl : l.length ≤ 1125899906842600) : Calls Try.prog 23 #[.pointer (some ⟨gd, 0, none⟩), .string key] w fun e w' => e = .returned (.int .i64 (rankL key l : Nat)) ∧ Below w.heap.size w w' := by
  have hs0 := h.srt
  obtain ⟨-, -, -, d, p, hcd, ht⟩ := h
  have HT : Hid (Calls Try.prog 35 #[.pointer (some ⟨gd, 0, none⟩)] w fun e w' => e = .returned (.pointer p) ∧ w' = w) := topOf gd p w hcd
  have HTR : Hid (∃ P, TreeAt P w d p l) := ⟨_, ht⟩
  have HS : Hid (Srt l) := hs0
  clear hs0 ht hcd
  obtain ⟨P, hTR⟩ := HTR.out
  have HTR2 : Hid (TreeAt P w d p l) := hTR
  clear hTR HTR
  go_enter Try.func23, Try.ntmps23
  go_wp2_with fail
  refine HT.out.mono ?_
  rintro e wk ⟨rfl, hwk⟩
  obtain rfl := hwk.symm
  go_wp2
  go_loopg [5, 6] d (fun gk s5 s6 wx => ∃ (q : Option Addr) (l' : List Ke) (c : Nat), s5 = .int .i64 c ∧ s6 = .pointer q ∧ c + l'.length ≤ l.length ∧ Hid (TreeAt P wx gk q l') ∧ Hid (Srt l') ∧ Hid (rankL key l = c + rankL key l') ∧ Hid (Below w.heap.size w wx))
  case atStart => exact ⟨p, l, 0, rfl, rfl, by omega, HTR2.out, HS.out, by simp [Hid], Below.refl _ _⟩
  case round =>
    obtain ⟨q, l', c, rfl, rfl, hcl, HTQ, HSQ, HRQ, HBQ⟩ := hrel
    clear HTR2 HS HT
    cases q with
    | none =>
      have hn := HTQ.out.none_is
      have HF : Hid (rankL key l = c) := by unfold Hid; rw [HRQ.out, hn]; rfl
      go_wp2
      go_ret
      exact ⟨ret_i (by rw [HF.out]), HBQ.out⟩
    | some ar =>
      obtain ⟨m', g, k, pl, pr, ll, lr, hm, rfl, hPg, hkk, hng, hll, hl1, hr1⟩ := HTQ.out.some_is
      subst hm hll
      have hlen : (ll ++ k :: lr).length = ll.length + lr.length + 1 := by simp; omega
      rw [hlen] at hcl
      have HCM : Hid (∀ u, Calls Try.prog 39 #[.string k.key, .string key] u fun e w' => e = .returned (.int .i64 (kc k.key key)) ∧ Below u.heap.size u w') := fun u => compare k.key key u (by unfold maxLen; omega) hk
      have HN : Hid (NodeAt wr g k (ll ++ k :: lr).length pl pr) := hng
      have HL1 : Hid (TreeAt P wr m' pl ll) := hl1
      have HR1 : Hid (TreeAt P wr m' pr lr) := hr1
      obtain ⟨c0, -, -, -, -, -, -, -, -, -⟩ := HN.out
      clear hng hl1 hr1
      go_wp2_with fail
      refine (HCM.out _).mono ?_
      rintro e w1 ⟨rfl, hb1⟩
      have HB1 : Hid (Below w.heap.size w w1) := HBQ.out.trans (hb1.mono HBQ.out.size)
      have HN1 : Hid (NodeAt w1 g k (ll ++ k :: lr).length pl pr) := HN.out.block (hb1.block _ HN.out.lt)
      have HL2 : Hid (TreeAt P w1 m' pl ll) := HL1.out.later hb1
      have HR2 : Hid (TreeAt P w1 m' pr lr) := HR1.out.later hb1
      clear hb1 c0
      obtain ⟨-, -, -, -, -, -, -, -, c8, c9⟩ := HN1.out
      have HSZ : Hid (∀ u, TreeAt P u m' pl ll → Calls Try.prog 38 #[.pointer pl] u fun e w' => e = .returned (.int .i64 ll.length) ∧ w' = u) := fun u hu => sizeOf u hu
      by_cases hc : kc k.key key = -1
      · have HR : Hid (rankL key l = c + (ll.length + 1) + rankL key lr) := by unfold Hid; rw [HRQ.out, rank_gt HSQ.out hc]; omega
        rw [hc]
        clear hc
        go_wp2_with (go_at_call 38; refine (HSZ.out _ (by first | exact HL2.out | exact HL2.out.later (Below.drew (Below.refl _ _)))).mono ?_; rintro e w2 ⟨rfl, rfl⟩)
        all_goals
          go_roundg m'
          case rel => exact ⟨pr, lr, c + (ll.length + 1), by go_num, rfl, by omega, by first | exact HR2.out | exact HR2.out.later (Below.drew (Below.refl _ _)), HSQ.out.parts.2.1, HR.out, by first | exact HB1.out | exact Below.drew HB1.out⟩
          case measure => exact Nat.lt_succ_self _
      · have HR : Hid (rankL key l = c + rankL key ll) := by unfold Hid; rw [HRQ.out, rank_le HSQ.out hc]
        have hcc : ¬ kc k.key key < 0 := by rcases kc_range k.key key with h | h | h <;> omega
        clear hc
        generalize kc k.key key = z at hcc
        go_wp2
        go_roundg m'
        case rel => exact ⟨pl, ll, c, rfl, rfl, by omega, HL2.out, HSQ.out.parts.1, HR.out, HB1.out⟩
        case measure => exact Nat.lt_succ_self _

def nthL (l : List Ke) (n : Int) : Option Ke := if 0 ≤ n then l[n.toNat]? else none
theorem nth_lt {ll lr : List Ke} {k : Ke} {n : Int} (h : n < (ll.length : Int)) : nthL (ll ++ k :: lr) n = nthL ll n := by
  unfold nthL
  by_cases h0 : 0 ≤ n
  · rw [if_pos h0, if_pos h0, List.getElem?_append_left (by omega)]
  · rw [if_neg h0, if_neg h0]
theorem nth_eq {ll lr : List Ke} {k : Ke} {n : Int} (h : n = (ll.length : Int)) : nthL (ll ++ k :: lr) n = some k := by
  unfold nthL
  rw [if_pos (by omega), show n.toNat = ll.length by omega]
  simp
theorem nth_gt {ll lr : List Ke} {k : Ke} {n : Int} (h : (ll.length : Int) < n) : nthL (ll ++ k :: lr) n = nthL lr (n - (ll.length + 1)) := by
  unfold nthL
  rw [if_pos (by omega), if_pos (by omega), List.getElem?_append_right (by omega), show n.toNat - ll.length = (n - (ll.length + 1)).toNat + 1 by omega]
  rfl
theorem nth_at {l : List Ke} {i : Nat} (h : i < l.length) : nthL l i = some (l.getD i Ke.zero) := by
  unfold nthL
  rw [if_pos (by omega), List.getD_eq_getElem?_getD, show ((i : Int)).toNat = i by omega, List.getElem?_eq_getElem h]
  rfl
theorem nth_past (l : List Ke) : nthL l l.length = none := by simp [nthL]
theorem nth_under (l : List Ke) : nthL l (-1) = none := rfl

set_option maxHeartbeats 4000000 in
theorem nthOf {D : Nat → Prop} {gd : Nat} {l : List Ke} (n : Int) (w : World) (h : DirAt D w gd l) (hn : I64 n) (hl : l.length ≤ 1125899906842600) : Calls Try.prog 22 #[.pointer (some ⟨gd, 0, none⟩), .int .i64 n] w fun e w' => e = .returned (.tuple #[((nthL l n).getD Ke.zero).v, .bool (nthL l n).isSome]) ∧ Below w.heap.size w w' := by
  obtain ⟨w0, hw0⟩ : ∃ w0, w.alloc (.cells #[.string ⟨#[]⟩, .int .i64 0, .int .i64 0, .int .i64 0, .int .i64 0, .int .i64 0, .bool false] 28) = w0 := ⟨_, rfl⟩
  have hb0 : Below w.heap.size w w0 := by rw [← hw0]; exact (Below.refl _ _).alloc (Nat.le_refl _) _
  have hgl := h.lt
  obtain ⟨-, -, -, d, p, hcd, ht⟩ := h
  have HT : Hid (Calls Try.prog 35 #[.pointer (some ⟨gd, 0, none⟩)] w0 fun e w' => e = .returned (.pointer p) ∧ w' = w0) := topOf gd p w0 ((hb0.cell (p := ⟨gd, 0, none⟩) hgl).trans hcd)
  have HTR : Hid (∃ P, TreeAt P w0 d p l) := ⟨_, ht.later hb0⟩
  have HG : Hid (∀ x, Below w.heap.size w (putKe w0 w.heap.size x)) := fun x => hb0.trans (grow_below (putKe_grow w0 w.heap.size x) hb0.size (fun g e => by cases e; exact Nat.le_refl _))
  obtain ⟨r0, r1, r2, r3, r4, r5, r6⟩ : KeAt w0 w.heap.size Ke.zero := by rw [← hw0]; exact KeAt.new w Ke.zero
  simp only [Ke.zero, En.zero] at r0 r1 r2 r3 r4 r5 r6
  have hfr : ∀ j, w0.frozen? ⟨w.heap.size, j, none⟩ = false := fun j => by rw [← hw0]; exact World.frozen?_alloc_at _ _ _ _ rfl
  have f0 := hfr 0
  have f1 := hfr 1
  have f2 := hfr 2
  have f3 := hfr 3
  have f4 := hfr 4
  have f5 := hfr 5
  have f6 := hfr 6
  clear hfr hb0 ht hcd hgl
  obtain ⟨P, hTR⟩ := HTR.out
  have HTR2 : Hid (TreeAt P w0 d p l) := hTR
  clear hTR HTR
  go_enter Try.func22, Try.ntmps22
  go_wp2_with fail
  refine HT.out.mono ?_
  rintro e wk ⟨rfl, hwk⟩
  obtain rfl := hwk.symm
  go_wp2
  go_loopg [1, 6] d (fun gk s1 s6 wx => ∃ (q : Option Addr) (l' : List Ke) (z : Int), s1 = .int .i64 z ∧ s6 = .pointer q ∧ I64 z ∧ l'.length ≤ l.length ∧ Hid (TreeAt P w0 gk q l') ∧ Hid (nthL l n = nthL l' z) ∧ wx = w0)
  case atStart => exact ⟨p, l, n, rfl, rfl, hn, Nat.le_refl _, HTR2.out, rfl, rfl⟩
  case round =>
    obtain ⟨q, l', z, rfl, rfl, hz, hll', HTQ, HNQ, hwr⟩ := hrel
    obtain rfl := hwr.symm
    clear HTR2 HT
    cases q with
    | none =>
      have hn' := HTQ.out.none_is
      have HF : Hid (nthL l n = none) := by unfold Hid; rw [HNQ.out, hn']; simp [nthL]
      go_wp2
      refine bodyPost_ret (v := .tuple #[Ke.zero.v, .bool false]) ?_ rfl ⟨by rw [HF.out]; rfl, HG.out Ke.zero⟩
      simp only [results, hresNth, Ke.zero, En.zero]
      go_simp
    | some ar =>
      obtain ⟨m', g, k, pl, pr, ll, lr, hm, rfl, hPg, hkk, hng, hll, hl1, hr1⟩ := HTQ.out.some_is
      subst hm hll
      have hlen : (ll ++ k :: lr).length = ll.length + lr.length + 1 := by simp; omega
      rw [hlen] at hll'
      have HN : Hid (NodeAt w0 g k (ll ++ k :: lr).length pl pr) := hng
      have HL1 : Hid (TreeAt P w0 m' pl ll) := hl1
      have HR1 : Hid (TreeAt P w0 m' pr lr) := hr1
      have HSZ : Hid (∀ u, TreeAt P u m' pl ll → Calls Try.prog 38 #[.pointer pl] u fun e w' => e = .returned (.int .i64 ll.length) ∧ w' = u) := fun u hu => sizeOf u hu
      obtain ⟨c0, c1, c2, c3, c4, c5, c6, -, c8, c9⟩ := HN.out
      clear hng hl1 hr1
      unfold I64 at hz
      by_cases h1 : z = (ll.length : Int)
      · have HF : Hid (nthL l n = some k) := by unfold Hid; rw [HNQ.out, nth_eq h1]
        subst h1
        go_wp2_with (go_at_call 38; refine (HSZ.out _ HL1.out).mono ?_; rintro e w2 ⟨rfl, hw2⟩; obtain rfl := hw2.symm)
        refine bodyPost_ret (v := .tuple #[k.v, .bool true]) ?_ rfl ⟨by rw [HF.out]; rfl, HG.out k⟩
        simp only [results, hresNth]
        go_simp
      · by_cases h2 : z < (ll.length : Int)
        · have HF : Hid (nthL l n = nthL ll z) := by unfold Hid; rw [HNQ.out, nth_lt h2]
          have h3 : (z == (ll.length : Int)) = false := by simpa using h1
          go_wp2_with (go_at_call 38; refine (HSZ.out _ HL1.out).mono ?_; rintro e w2 ⟨rfl, hw2⟩; obtain rfl := hw2.symm)
          go_roundg m'
          case rel => exact ⟨pl, ll, z, rfl, rfl, by unfold I64; omega, by omega, HL1.out, HF.out, rfl⟩
          case measure => exact Nat.lt_succ_self _
        · have HF : Hid (nthL l n = nthL lr (z - (ll.length + 1))) := by unfold Hid; rw [HNQ.out, nth_gt (by omega)]
          have h3 : (z == (ll.length : Int)) = false := by simpa using h1
          go_wp2_with (go_at_call 38; refine (HSZ.out _ HL1.out).mono ?_; rintro e w2 ⟨rfl, hw2⟩; obtain rfl := hw2.symm)
          go_roundg m'
          case rel => exact ⟨pr, lr, z - (ll.length + 1), by go_num, rfl, by unfold I64; omega, by omega, HR1.out, HF.out, rfl⟩
          case measure => exact Nat.lt_succ_self _
end Go.Proofs.Ythfnbcicpcbgjaa
