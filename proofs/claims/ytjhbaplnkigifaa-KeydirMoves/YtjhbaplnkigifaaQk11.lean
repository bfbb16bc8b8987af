import Derived.Test.YtjhbaplnkigifaaQk10
import Derived.Test.YtjhbaplnkigifaaQk09
import Derived.BigQuiet
/-! keydir: Rank and Nth. -/
namespace Go.Proofs.Ytjhbaplnkigifaa
open Go.RowKit Plain
set_option linter.unusedVariables false
set_option linter.unusedSimpArgs false

def rankL (key : ByteArray) (l : List Ke) : Nat := (l.filter fun x => decide (kc x.key key = -1)).length
theorem rankL_le (key : ByteArray) (l : List Ke) : rankL key l ≤ l.length := List.length_filter_le ..
theorem rankL_app (key : ByteArray) (a b : List Ke) : rankL key (a ++ b) = rankL key a + rankL key b := by simp [rankL]
theorem rankL_cons (key : ByteArray) (x : Ke) (l : List Ke) : rankL key (x :: l) = (if kc x.key key = -1 then 1 else 0) + rankL key l := by
  by_cases h : kc x.key key = -1 <;> simp [rankL, List.filter_cons, h]
  omega
theorem rankL_all {key : ByteArray} {l : List Ke} (h : ∀ y ∈ l, kc y.key key = -1) : rankL key l = l.length := by
  unfold rankL
  rw [List.filter_eq_self.mpr (fun y hy => by simp [h y hy])]
theorem rankL_none {key : ByteArray} {l : List Ke} (h : ∀ y ∈ l, kc y.key key ≠ -1) : rankL key l = 0 := by
  unfold rankL
  rw [List.filter_eq_nil_iff.mpr (fun y hy => by simp [h y hy])]
  rfl
theorem rank_gt {key : ByteArray} {k : Ke} {ll lr : List Ke} (hs : Srt (ll ++ k :: lr)) (h : kc k.key key = -1) : rankL key (ll ++ k :: lr) = ll.length + 1 + rankL key lr := by
  rw [rankL_app, rankL_cons, if_pos h, rankL_all fun y hy => kc_trans (hs.parts.2.2.1 y hy) h]
  omega
theorem rank_le {key : ByteArray} {k : Ke} {ll lr : List Ke} (hs : Srt (ll ++ k :: lr)) (h : kc k.key key ≠ -1) : rankL key (ll ++ k :: lr) = rankL key ll := by
  have h2 : rankL key lr = 0 := rankL_none fun y hy h3 => h (kc_trans (hs.parts.2.2.2.1 y hy) h3)
  rw [rankL_app, rankL_cons, if_neg h, h2]
  omega
theorem rank_at {l : List Ke} (hs : Srt l) {i : Nat} (hi : i < l.length) : rankL (l.getD i Ke.zero).key l = i := by
  have e : l.getD i Ke.zero = l[i] := by rw [List.getD_eq_getElem?_getD, List.getElem?_eq_getElem hi]; rfl
  rw [e]
  have hp : l = l.take i ++ l[i] :: l.drop (i + 1) := by rw [← List.drop_eq_getElem_cons hi, List.take_append_drop]
  obtain ⟨x, hx⟩ : ∃ x, l[i] = x := ⟨_, rfl⟩
  rw [hx] at hp ⊢
  rw [hp] at hs ⊢
  rw [rank_le hs (by rw [kc_self]; decide), rankL_all hs.parts.2.2.1]
  simp; omega
theorem rank_found {l : List Ke} {key : ByteArray} (hs : Srt l) (h : (findL key l).isSome = true) : rankL key l < l.length ∧ (l.getD (rankL key l) Ke.zero).key = key := by
  obtain ⟨x, hx⟩ := Option.isSome_iff_exists.mp h
  obtain ⟨hm, rfl⟩ := findL_is hx
  obtain ⟨i, hi, hxi⟩ := List.mem_iff_getElem.mp hm
  have e : l.getD i Ke.zero = x := by rw [List.getD_eq_getElem?_getD, List.getElem?_eq_getElem hi]; exact hxi
  have hr := rank_at hs hi
  rw [e] at hr
  rw [hr, e]
  exact ⟨hi, rfl⟩

set_option maxHeartbeats 2000000 in
theorem rankOf {D : Nat → Prop} {gd : Nat} {l : List Ke} (key : ByteArray) (w : World) (h : DirAt D w gd l) (hk : key.size ≤ maxLen) (hl : l.length ≤ 1125899906842600) : Calls Try.prog 21 #[.pointer (some ⟨gd, 0, none⟩), .string key] w fun e w' => e = .returned (.int .i64 (rankL key l : Nat)) ∧ Below w.heap.size w w' := by
  have hs0 := h.srt
  obtain ⟨-, -, -, d, p, hcd, ht⟩ := h
  have HT : Hid (Calls Try.prog 43 #[.pointer (some ⟨gd, 0, none⟩)] w fun e w' => e = .returned (.pointer p) ∧ w' = w) := topOf gd p w hcd
  have HTR : Hid (∃ P, TreeAt P w d p l) := ⟨_, ht⟩
  have HS : Hid (Srt l) := hs0
  clear hs0 ht hcd
  obtain ⟨P, hTR⟩ := HTR.out
  have HTR2 : Hid (TreeAt P w d p l) := hTR
  clear hTR HTR
  go_enter Try.func21, Try.ntmps21
  go_wp2_with fail
  refine HT.out.mono ?_
  rintro e wk ⟨rfl, hwk⟩
  obtain rfl := hwk.symm
  go_wp2
  go_loopg [5, 6] d (fun gk s5 s6 wx => ∃ (q : Option Addr) (l' : List Ke) (c : Nat), s5 = .int .i64 c ∧ s6 = .pointer q ∧ c + l'.length ≤ l.length ∧ Hid (TreeAt P wx gk q l') ∧ Hid (Srt l') ∧ Hid (rankL key l = c + rankL key l') ∧ Hid (Below w.heap.size w wx))
  case atStart => exact ⟨p, l, 0, rfl, rfl, by omega, HTR2.out, HS.out, by simp [Hid], Below.refl _ _⟩
  case round =>
    obtain ⟨q, l', c, rfl, rfl, hcl, HTQ, HSQ, HRQ, HBQ⟩ := hrel
    clear HTR2 HS HT
    cases q with
    | none =>
      have hn := HTQ.out.none_is
      have HF : Hid (rankL key l = c) := by unfold Hid; rw [HRQ.out, hn]; rfl
      go_wp2
      go_ret
      exact ⟨ret_i (by rw [HF.out]), HBQ.out⟩
    | some ar =>
      obtain ⟨m', g, k, pl, pr, ll, lr, hm, rfl, hPg, hkk, hng, hll, hl1, hr1⟩ := HTQ.out.some_is
      subst hm hll
      have hlen : (ll ++ k :: lr).length = ll.length + lr.length + 1 := by simp; omega
      rw [hlen] at hcl
      have HCM : Hid (∀ u, Calls Try.prog 46 #[.string k.key, .string key] u fun e w' => e = .returned (.int .i64 (kc k.key key)) ∧ Below u.heap.size u w') := fun u => compare k.key key u (by unfold maxLen; omega) hk
      have HN : Hid (NodeAt wr g k (ll ++ k :: lr).length pl pr) := hng
      have HL1 : Hid (TreeAt P wr m' pl ll) := hl1
      have HR1 : Hid (TreeAt P wr m' pr lr) := hr1
      obtain ⟨c0, -, -, -, -, -, -, -, -, -⟩ := HN.out
      clear hng hl1 hr1
      go_wp2_with fail
      refine (HCM.out _).mono ?_
      rintro e w1 ⟨rfl, hb1⟩
      have HB1 : Hid (Below w.heap.size w w1) := HBQ.out.trans (hb1.mono HBQ.out.size)
      have HN1 : Hid (NodeAt w1 g k (ll ++ k :: lr).length pl pr) := HN.out.block (hb1.block _ HN.out.lt)
      have HL2 : Hid (TreeAt P w1 m' pl ll) := HL1.out.later hb1
      have HR2 : Hid (TreeAt P w1 m' pr lr) := HR1.out.later hb1
      clear hb1 c0
      obtain ⟨-, -, -, -, -, -, -, -, c8, c9⟩ := HN1.out
      have HSZ : Hid (∀ u, TreeAt P u m' pl ll → Calls Try.prog 47 #[.pointer pl] u fun e w' => e = .returned (.int .i64 ll.length) ∧ w' = u) := fun u hu => sizeOf u hu
      by_cases hc : kc k.key key = -1
      · have HR : Hid (rankL key l = c + (ll.length + 1) + rankL key lr) := by unfold Hid; rw [HRQ.out, rank_gt HSQ.out hc]; omega
        rw [hc]
        clear hc
        go_wp2_with (go_at_call 47; refine (HSZ.out _ (by first | exact HL2.out | exact HL2.out.later (Below.drew (Below.refl _ _)))).mono ?_; rintro e w2 ⟨rfl, rfl⟩)
        all_goals
          go_roundg m'
          case rel => exact ⟨pr, lr, c + (ll.length + 1), by go_num, rfl, by omega, by first | exact HR2.out | exact HR2.out.later (Below.drew (Below.refl _ _)), HSQ.out.parts.2.1, HR.out, by first | exact HB1.out | exact Below.drew HB1.out⟩
          case measure => exact Nat.lt_succ_self _
      · have HR : Hid (rankL key l = c + rankL key ll) := by unfold Hid; rw [HRQ.out, rank_le HSQ.out hc]
        have hcc : ¬ kc k.key key < 0 := by rcases kc_range k.key key with h | h | h <;> omega
        clear hc
        generalize kc k.key key = z at hcc
        go_wp2
        go_roundg m'
        case rel => exact ⟨pl, ll, c, rfl, rfl, by omega, HL2.out, HSQ.out.parts.1, HR.out, HB1.out⟩
        case measure => exact Nat.lt_succ_self _

def nthL (l : List Ke) (n : Int) : Option Ke := if 0 ≤ n then l[n.toNat]? else none
theorem nth_lt {ll lr : List Ke} {k : Ke} {n : Int} (h : n < (ll.length : Int)) : nthL (ll ++ k :: lr) n = nthL ll n := by
  unfold nthL
  by_cases h0 : 0 ≤ n
  · rw [if_pos h0, if_pos h0, List.getElem?_append_left (by omega)]
  · rw [if_neg h0, if_neg h0]
theorem nth_eq {ll lr : List Ke} {k : Ke} {n : Int} (h : n = (ll.length : Int)) : nthL (ll ++ k :: lr) n = some k := by
  unfold nthL
  rw [if_pos (by omega), show n.toNat = ll.length by omega]
  simp
theorem nth_gt {ll lr : List Ke} {k : Ke} {n : Int} (h : (ll.length : Int) < n) : nthL (ll ++ k :: lr) n = nthL lr (n - (ll.length + 1)) := by
  unfold nthL
  rw [if_pos (by omega), if_pos (by omega), List.getElem?_append_right (by omega), show n.toNat - ll.length = (n - (ll.length + 1)).toNat + 1 by omega]
  rfl
theorem nth_at {l : List Ke} {i : Nat} (h : i < l.length) : nthL l i = some (l.getD i Ke.zero) := by
  unfold nthL
  rw [if_pos (by omega), List.getD_eq_getElem?_getD, show ((i : Int)).toNat = i by omega, List.getElem?_eq_getElem h]
  rfl
theorem nth_past (l : List Ke) : nthL l l.length = none := by simp [nthL]
theorem nth_under (l : List Ke) : nthL l (-1) = none := rfl

set_option maxHeartbeats 4000000 in
theorem nthOf {D : Nat → Prop} {gd : Nat} {l : List Ke} (n : Int) (w : World) (h : DirAt D w gd l) (hn : I64 n) (hl : l.length ≤ 1125899906842600) : Calls Try.prog 25 #[.pointer (some ⟨gd, 0, none⟩), .int .i64 n] w fun e w' => e = .returned (.tuple #[((nthL l n).getD Ke.zero).v, .bool (nthL l n).isSome]) ∧ Below w.heap.size w w' := by
  obtain ⟨w0, hw0⟩ : ∃ w0, w.alloc (.cells #[.string ⟨#[]⟩, .int .i64 0, .int .i64 0, .int .i64 0, .int .i64 0, .int .i64 0, .bool false] 58) = w0 := ⟨_, rfl⟩
  have hb0 : Below w.heap.size w w0 := by rw [← hw0]; exact (Below.refl _ _).alloc (Nat.le_refl _) _
  have hgl := h.lt
  obtain ⟨-, -, -, d, p, hcd, ht⟩ := h
  have HT : Hid (Calls Try.prog 43 #[.pointer (some ⟨gd, 0, none⟩)] w0 fun e w' => e = .returned (.pointer p) ∧ w' = w0) := topOf gd p w0 ((hb0.cell (p := ⟨gd, 0, none⟩) hgl).trans hcd)
  have HTR : Hid (∃ P, TreeAt P w0 d p l) := ⟨_, ht.later hb0⟩
  have HG : Hid (∀ x, Below w.heap.size w (putKe w0 w.heap.size x)) := fun x => hb0.trans (grow_below (putKe_grow w0 w.heap.size x) hb0.size (fun g e => by cases e; exact Nat.le_refl _))
  obtain ⟨r0, r1, r2, r3, r4, r5, r6⟩ : KeAt w0 w.heap.size Ke.zero := by rw [← hw0]; exact KeAt.new w Ke.zero
  simp only [Ke.zero, En.zero] at r0 r1 r2 r3 r4 r5 r6
  have hfr : ∀ j, w0.frozen? ⟨w.heap.size, j, none⟩ = false := fun j => by rw [← hw0]; exact World.frozen?_alloc_at _ _ _ _ rfl
  have f0 := hfr 0
  have f1 := hfr 1
  have f2 := hfr 2
  have f3 := hfr 3
  have f4 := hfr 4
  have f5 := hfr 5
  have f6 := hfr 6
  clear hfr hb0 ht hcd hgl
  obtain ⟨P, hTR⟩ := HTR.out
  have HTR2 : Hid (TreeAt P w0 d p l) := hTR
  clear hTR HTR
  go_enter Try.func25, Try.ntmps25
  go_wp2_with fail
  refine HT.out.mono ?_
  rintro e wk ⟨rfl, hwk⟩
  obtain rfl := hwk.symm
  go_wp2
  go_loopg [1, 6] d (fun gk s1 s6 wx => ∃ (q : Option Addr) (l' : List Ke) (z : Int), s1 = .int .i64 z ∧ s6 = .pointer q ∧ I64 z ∧ l'.length ≤ l.length ∧ Hid (TreeAt P w0 gk q l') ∧ Hid (nthL l n = nthL l' z) ∧ wx = w0)
  case atStart => exact ⟨p, l, n, rfl, rfl, hn, Nat.le_refl _, HTR2.out, rfl, rfl⟩
  case round =>
    obtain ⟨q, l', z, rfl, rfl, hz, hll', HTQ, HNQ, hwr⟩ := hrel
    obtain rfl := hwr.symm
    clear HTR2 HT
    cases q with
    | none =>
      have hn' := HTQ.out.none_is
      have HF : Hid (nthL l n = none) := by unfold Hid; rw [HNQ.out, hn']; simp [nthL]
      go_wp2
      refine bodyPost_ret (v := .tuple #[Ke.zero.v, .bool false]) ?_ rfl ⟨by rw [HF.out]; rfl, HG.out Ke.zero⟩
      simp only [results, hresNth, Ke.zero, En.zero]
      go_simp
    | some ar =>
      obtain ⟨m', g, k, pl, pr, ll, lr, hm, rfl, hPg, hkk, hng, hll, hl1, hr1⟩ := HTQ.out.some_is
      subst hm hll
      have hlen : (ll ++ k :: lr).length = ll.length + lr.length + 1 := by simp; omega
      rw [hlen] at hll'
      have HN : Hid (NodeAt w0 g k (ll ++ k :: lr).length pl pr) := hng
      have HL1 : Hid (TreeAt P w0 m' pl ll) := hl1
      have HR1 : Hid (TreeAt P w0 m' pr lr) := hr1
      have HSZ : Hid (∀ u, TreeAt P u m' pl ll → Calls Try.prog 47 #[.pointer pl] u fun e w' => e = .returned (.int .i64 ll.length) ∧ w' = u) := fun u hu => sizeOf u hu
      obtain ⟨c0, c1, c2, c3, c4, c5, c6, -, c8, c9⟩ := HN.out
      clear hng hl1 hr1
      unfold I64 at hz
      by_cases h1 : z = (ll.length : Int)
      · have HF : Hid (nthL l n = some k) := by unfold Hid; rw [HNQ.out, nth_eq h1]
        subst h1
        go_wp2_with (go_at_call 47; refine (HSZ.out _ HL1.out).mono ?_; rintro e w2 ⟨rfl, hw2⟩; obtain rfl := hw2.symm)
        refine bodyPost_ret (v := .tuple #[k.v, .bool true]) ?_ rfl ⟨by rw [HF.out]; rfl, HG.out k⟩
        simp only [results, hresNth]
        go_simp
      · by_cases h2 : z < (ll.length : Int)
        · have HF : Hid (nthL l n = nthL ll z) := by unfold Hid; rw [HNQ.out, nth_lt h2]
          have h3 : (z == (ll.length : Int)) = false := by simpa using h1
          go_wp2_with (go_at_call 47; refine (HSZ.out _ HL1.out).mono ?_; rintro e w2 ⟨rfl, hw2⟩; obtain rfl := hw2.symm)
          go_roundg m'
          case rel => exact ⟨pl, ll, z, rfl, rfl, by unfold I64; omega, by omega, HL1.out, HF.out, rfl⟩
          case measure => exact Nat.lt_succ_self _
        · have HF : Hid (nthL l n = nthL lr (z - (ll.length + 1))) := by unfold Hid; rw [HNQ.out, nth_gt (by omega)]
          have h3 : (z == (ll.length : Int)) = false := by simpa using h1
          go_wp2_with (go_at_call 47; refine (HSZ.out _ HL1.out).mono ?_; rintro e w2 ⟨rfl, hw2⟩; obtain rfl := hw2.symm)
          go_roundg m'
          case rel => exact ⟨pr, lr, z - (ll.length + 1), by go_num, rfl, by unfold I64; omega, by omega, HR1.out, HF.out, rfl⟩
          case measure => exact Nat.lt_succ_self _
end Go.Proofs.Ytjhbaplnkigifaa

/-! keydir: the document's Compare, which tells a difference. -/
namespace Go.Proofs.Ytjhbaplnkigifaa
open Go.RowKit Plain
set_option linter.unusedVariables false
set_option linter.unusedSimpArgs false

def cmpD : List UInt8 → List UInt8 → Int
  | [], ys => - (ys.length : Int)
  | x :: xs, [] => (xs.length : Int) + 1
  | x :: xs, y :: ys => if x.toNat = y.toNat then cmpD xs ys else (x.toNat : Int) - y.toNat
theorem cmpD_sign : ∀ xs ys : List UInt8, (cmpD xs ys < 0 ↔ cmpL xs ys = -1) ∧ (0 < cmpD xs ys ↔ cmpL xs ys = 1)
  | [], [] => by simp [cmpD, cmpL]
  | [], y :: ys => by simp [cmpD, cmpL]; omega
  | x :: xs, [] => by simp [cmpD, cmpL]; omega
  | x :: xs, y :: ys => by
    have ih := cmpD_sign xs ys
    by_cases h1 : x.toNat < y.toNat
    · simp only [cmpD, cmpL, if_pos h1, if_neg (show ¬ x.toNat = y.toNat by omega)]
      exact ⟨⟨fun _ => trivial, fun _ => by omega⟩, ⟨fun h => by omega, fun h => absurd h (by decide)⟩⟩
    · by_cases h2 : y.toNat < x.toNat
      · simp only [cmpD, cmpL, if_neg h1, if_pos h2, if_neg (show ¬ x.toNat = y.toNat by omega)]
        exact ⟨⟨fun h => by omega, fun h => absurd h (by decide)⟩, ⟨fun _ => trivial, fun _ => by omega⟩⟩
      · simp only [cmpD, cmpL, if_neg h1, if_neg h2, if_pos (show x.toNat = y.toNat by omega)]
        exact ih
def kd (a b : ByteArray) : Int := cmpD a.data.toList b.data.toList
theorem kd_neg (a b : ByteArray) : kd a b < 0 ↔ kc a b = -1 := (cmpD_sign _ _).1
theorem cmpD_off (a b : ByteArray) (k : Nat) (ha : k ≤ a.size) (hb : k ≤ b.size) (h : a.size ≤ k ∨ b.size ≤ k) : cmpD (a.data.toList.drop k) (b.data.toList.drop k) = (a.size : Int) - b.size := by
  have la : (a.data.toList.drop k).length = a.size - k := by simp
  have lb : (b.data.toList.drop k).length = b.size - k := by simp
  rcases h with h | h
  · have e : a.data.toList.drop k = [] := drop_off a k h
    rw [e]
    simp only [cmpD, lb]
    omega
  · have e : b.data.toList.drop k = [] := drop_off b k h
    rw [e]
    cases ea : a.data.toList.drop k with
    | nil => rw [ea] at la; simp at la; simp [cmpD]; omega
    | cons x xs =>
      rw [ea] at la
      simp at la
      simp only [cmpD]
      omega
set_option maxHeartbeats 1000000 in
theorem xcompareOf (a b : ByteArray) (w : World) (ha : a.size ≤ maxLen) (hb : b.size ≤ maxLen) :
    Calls Try.prog 48 #[.string a, .string b] w fun e w' => e = .returned (.int .i64 (kd a b)) ∧ ∃ n, w' = w.drewN n := by
  unfold maxLen at ha hb
  go_enter Try.func48, Try.ntmps48
  go_wp2
  go_loopw [5] (fun i w' => ∃ k n : Nat, w' = w.drewN n ∧ k ≤ a.size ∧ k ≤ b.size ∧ i = .int .i64 k ∧ kd a b = cmpD (a.data.toList.drop k) (b.data.toList.drop k)) (fun i _ => a.size - (intOf i).toNat)
  case atStart => exact ⟨0, 0, rfl, by omega, by omega, rfl, rfl⟩
  case round =>
    obtain ⟨k, n, rfl, hka, hkb, rfl, hr⟩ := hrel
    have HR : Hid (kd a b = cmpD (a.data.toList.drop k) (b.data.toList.drop k)) := hr
    clear hr
    by_cases h1 : k < a.size
    · by_cases h2 : k < b.size
      · have ea := drop_at a k h1
        have eb := drop_at b k h2
        have HS : Hid (kd a b = if a[k].toNat = b[k].toNat then cmpD (a.data.toList.drop (k + 1)) (b.data.toList.drop (k + 1)) else (a[k].toNat : Int) - b[k].toNat) := by
          unfold Hid
          rw [HR.out, ea, eb]; rfl
        clear ea eb HR
        by_cases he : a[k].toNat = b[k].toNat
        · have HS1 : Hid (kd a b = cmpD (a.data.toList.drop (k + 1)) (b.data.toList.drop (k + 1))) := by unfold Hid; rw [HS.out, if_pos he]
          go_wp2
          go_quiet (fail)
          go_wp2
          go_roundw
          case rel => exact ⟨k + 1, _, rfl, by omega, by omega, by go_num, HS1.out⟩
          case measure => simp [intOf]; omega
        · have HS1 : Hid (kd a b = (a[k].toNat : Int) - b[k].toNat) := by unfold Hid; rw [HS.out, if_neg he]
          go_wp2
          go_quiet (fail)
          go_wp2
          go_quiet (fail)
          go_wp2
          go_ret
          have b1 : a[k].toNat < 256 := UInt8.toNat_lt _
          have b2 : b[k].toNat < 256 := UInt8.toNat_lt _
          refine ⟨ret_i ?_, dn3 _ _ _ _⟩
          rw [HS1.out]
          generalize a[k].toNat = x1 at *
          generalize b[k].toNat = x2 at *
          rw [show wrap64 (x1 : Int) = x1 from IntWalk.wrap64_in _ (by omega), show wrap64 (x2 : Int) = x2 from IntWalk.wrap64_in _ (by omega), IntWalk.wrap64_in _ (by omega)]
      · have HS : Hid (kd a b = (a.size : Int) - b.size) := by unfold Hid; rw [HR.out]; exact cmpD_off a b k hka hkb (.inr (by omega))
        clear HR
        go_wp2
        go_ret
        exact ⟨ret_i (by rw [HS.out]), _, rfl⟩
    · have HS : Hid (kd a b = (a.size : Int) - b.size) := by unfold Hid; rw [HR.out]; exact cmpD_off a b k hka hkb (.inl (by omega))
      clear HR
      go_wp2
      go_ret
      exact ⟨ret_i (by rw [HS.out]), _, rfl⟩
end Go.Proofs.Ytjhbaplnkigifaa

/-! keydir: the document's dir in memory; Rank. -/
namespace Go.Proofs.Ytjhbaplnkigifaa
open Go.RowKit Plain
set_option linter.unusedVariables false
set_option linter.unusedSimpArgs false

abbrev rowK (l : List Ke) : List Kr := l.map Ke.r
theorem rowK_getD (l : List Ke) (j : Nat) (h : j < l.length) : (rowK l).getD j Kr.zero = (l.getD j Ke.zero).r := by
  simp [List.getElem?_eq_getElem h]
/-- The document's dir in block gx, its list in block r. -/
structure XDirAt (w : World) (gx : Nat) (v : Value) (l : List Ke) (r : Option Nat) : Prop where
  cell : w.cell? ⟨gx, 0, none⟩ = some v
  froz : w.frozen? ⟨gx, 0, none⟩ = false
  row : OwnKr w v (rowK l) r
  ne : r ≠ some gx
  srt : Srt l
  short : ∀ k ∈ l, k.key.size ≤ 64
  len : l.length ≤ 2199023255000
theorem XDirAt.lt {w : World} {gx : Nat} {v : Value} {l : List Ke} {r : Option Nat} (h : XDirAt w gx v l r) : gx < w.heap.size := cell_lt h.cell
theorem XDirAt.of_block {w w' : World} {gx : Nat} {v : Value} {l : List Ke} {r : Option Nat} (h : XDirAt w gx v l r) (hg : w.grownBy w' none) : XDirAt w' gx v l r :=
  ⟨(World.cell?_of_block (w := w) (a := ⟨gx, 0, none⟩) (hg.block gx h.lt (by simp))).trans h.cell, (World.frozen?_of_block (w := w) (a := ⟨gx, 0, none⟩) (hg.block gx h.lt (by simp))).trans h.froz, h.row.kept hg (by cases r <;> simp), h.ne, h.srt, h.short, h.len⟩
theorem XDirAt.later {w w' : World} {gx : Nat} {v : Value} {l : List Ke} {r : Option Nat} (h : XDirAt w gx v l r) (hb : Below w.heap.size w w') : XDirAt w' gx v l r := h.of_block (below_grow hb none)
/-- What the words of a walk need of it. -/
theorem XDirAt.shape {w : World} {gx : Nat} {v : Value} {l : List Ke} {r : Option Nat} (h : XDirAt w gx v l r) : ∃ a cap, v = .slice a l.length cap ∧ cap ≤ maxLen ∧ l.length ≤ cap := by
  obtain ⟨a, cap, e, h1, h2⟩ := h.row.shape
  rw [List.length_map] at e h2
  exact ⟨a, cap, e, h1, h2⟩
theorem XDirAt.at {w : World} {gx n cap : Nat} {a : Option Addr} {l : List Ke} {r : Option Nat} (h : XDirAt w gx (.slice a n cap) l r) {j : Nat} (hj : j < l.length) : ∃ g, r = some g ∧ a = some ⟨g, 0, none⟩ ∧ Kr.CellsAt w g (j * 7) (l.getD j Ke.zero).r := by
  have hr := h.row
  cases r with
  | none =>
    rcases hr with ⟨_, h2, _⟩ | ⟨g, c, e, _⟩
    · have : l = [] := by simpa using h2
      rw [this] at hj; simp at hj
    · cases e
  | some g =>
    refine ⟨g, rfl, ?_, ?_⟩
    · rcases hr with ⟨_, _, e⟩ | ⟨g', c, e, e2, _⟩
      · cases e
      · cases e; injection e2
    · have := hr.at (j := j) (by simpa using hj)
      rwa [rowK_getD l j hj] at this
theorem rank_first {l : List Ke} {key : ByteArray} {k : Nat} (hs : Srt l) (hk : k ≤ l.length) (h1 : ∀ i, i < k → kc (l.getD i Ke.zero).key key = -1) (h2 : k < l.length → kc (l.getD k Ke.zero).key key ≠ -1) : rankL key l = k := by
  have e := (List.take_append_drop k l).symm
  rw [e, rankL_app, rankL_all, rankL_none]
  · simp; omega
  · intro y hy
    obtain ⟨j, hj, rfl⟩ := List.getElem_of_mem hy
    rw [List.length_drop] at hj
    rw [List.getElem_drop]
    have hkl : k < l.length := by omega
    have h3 := h2 hkl
    rw [List.getD_eq_getElem?_getD, List.getElem?_eq_getElem hkl] at h3
    by_cases h0 : j = 0
    · subst h0; exact h3
    · intro h4
      have h5 : kc l[k].key l[k + j].key = -1 := List.pairwise_iff_getElem.mp hs k (k + j) hkl (by omega) (by omega)
      exact h3 (kc_trans h5 h4)
  · intro y hy
    obtain ⟨j, hj, rfl⟩ := List.getElem_of_mem hy
    rw [List.length_take] at hj
    rw [List.getElem_take]
    have := h1 j (by omega)
    rwa [List.getD_eq_getElem?_getD, List.getElem?_eq_getElem (by omega)] at this
theorem dquiet {P : Program} {f : FuncId} {args : Array Value} {w : World} {n x : Nat} {v : Value}
    (h : Calls P f args (w.drewN (n + x)) fun e w' => e = .returned v ∧ ∃ m, w' = (w.drewN (n + x)).drewN m) : Calls P f args (w.drewN (n + x)) fun e w'' => e = .returned v ∧ ∃ m, w'' = w.drewN (n + m) :=
  h.mono fun _ _ ⟨he, m, hm⟩ => ⟨he, x + m, by rw [hm, World.drewN_drewN, Nat.add_assoc]⟩
set_option maxHeartbeats 2000000 in
theorem xrankOf (gx : Nat) (v : Value) (l : List Ke) (r : Option Nat) (key : ByteArray) (w : World) (h : XDirAt w gx v l r) (hk : key.size ≤ maxLen) :
    Calls Try.prog 22 #[.pointer (some ⟨gx, 0, none⟩), .string key] w fun e w' => e = .returned (.int .i64 (rankL key l : Nat)) ∧ ∃ n, w' = w.drewN n := by
  obtain ⟨a, cap, rfl, hc1, hc2⟩ := h.shape
  have HX : Hid (XDirAt w gx (.slice a l.length cap) l r) := h
  have c0 := h.cell
  have hll := h.len
  have HK : Hid (key.size ≤ maxLen) := hk
  clear h hk
  go_enter Try.func22, Try.ntmps22
  go_wp2
  go_loopw [5] (fun i wr => ∃ k n : Nat, wr = w.drewN n ∧ k ≤ l.length ∧ i = .int .i64 k ∧ Hid (∀ j, j < k → kc (l.getD j Ke.zero).key key = -1)) (fun i _ => l.length - (intOf i).toNat)
  case atStart => exact ⟨0, 0, rfl, by omega, rfl, fun j hj => by omega⟩
  case round =>
    obtain ⟨k, n, rfl, hkl, rfl, HB⟩ := hrel
    by_cases hlt : k < l.length
    · obtain ⟨g, rfl, rfl, hcell⟩ := HX.out.at hlt
      have d0 := hcell.c0
      have hsz : (l.getD k Ke.zero).key.size ≤ maxLen := by
        have := HX.out.short (l.getD k Ke.zero) (by rw [List.getD_eq_getElem?_getD, List.getElem?_eq_getElem hlt]; exact List.getElem_mem _)
        unfold maxLen; omega
      have HCM : Hid (∀ w, Calls Try.prog 48 #[.string (l.getD k Ke.zero).key, .string key] w fun e w' => e = .returned (.int .i64 (kd (l.getD k Ke.zero).key key)) ∧ ∃ n, w' = w.drewN n) := fun w => xcompareOf _ _ w hsz HK.out
      have HSG : Hid (kd (l.getD k Ke.zero).key key < 0 ↔ kc (l.getD k Ke.zero).key key = -1) := kd_neg _ _
      have HKN : Hid (kc (l.getD k Ke.zero).key key = -1 → ∀ j, j < k + 1 → kc (l.getD j Ke.zero).key key = -1) := fun hh j hj => by
        by_cases e : j = k
        · rw [e]; exact hh
        · exact HB.out j (by omega)
      have HRK : Hid (kc (l.getD k Ke.zero).key key ≠ -1 → rankL key l = k) := fun hh => rank_first HX.out.srt hkl HB.out (fun _ => hh)
      have d0' : w.cell? ⟨g, k * 7, none⟩ = some (.string (l.getD k Ke.zero).key) := d0
      clear hcell d0 hsz
      generalize kc (l.getD k Ke.zero).key key = C at HSG HKN HRK
      generalize kd (l.getD k Ke.zero).key key = K at HCM HSG
      generalize (l.getD k Ke.zero).key = yk at HCM d0'
      have hki : (k : Int) < (l.length : Int) := by omega
      by_cases hK : K < 0
      · have HK2 := HKN.out (HSG.out.1 hK)
        have HK3 : Hid (∀ j, j < k + 1 → kc (l.getD j Ke.zero).key key = -1) := HK2
        clear HK2 HKN HRK HSG
        go_wp2_with fail
        refine (HCM.out _).mono ?_
        rintro e w' ⟨rfl, nq, rfl⟩
        go_wp2
        go_roundw
        case rel => exact ⟨k + 1, n + nq, rfl, by omega, by go_num, HK3.out⟩
        case measure => simp [intOf]; omega
      · have HR2 : Hid (rankL key l = k) := HRK.out (fun e => hK (HSG.out.2 e))
        clear HKN HRK HSG
        go_wp2_with fail
        refine (HCM.out _).mono ?_
        rintro e w' ⟨rfl, nq, rfl⟩
        go_wp2
        go_ret
        exact ⟨by simp [HR2.out], n + nq, rfl⟩
    · obtain rfl : k = l.length := by omega
      have HR2 : Hid (rankL key l = l.length) := rank_first HX.out.srt (Nat.le_refl _) HB.out (fun h => by omega)
      go_wp2
      go_ret
      exact ⟨by simp [HR2.out], _, rfl⟩
end Go.Proofs.Ytjhbaplnkigifaa

/-! keydir: dirs without keys are gone through. -/
namespace Go.Proofs.Ytjhbaplnkigifaa
open Go.RowKit Go.Shelf Plain
attribute [local go_sem] Oper.semAt_some
set_option linter.unusedVariables false
set_option linter.unusedSimpArgs false

theorem hresAfter : Try.f59.results = #[.tmp 2, .tmp 3] := by kernel_rfl
set_option maxHeartbeats 2000000 in
theorem afterNone (w : World) : Calls Try.prog 59 #[.string ⟨#[]⟩] w fun e w' => e = .returned (.tuple #[.string ⟨#[]⟩, .bool false]) ∧ w' = w := by
  go_enter Try.func59, Try.ntmps59
  go_wp2
  go_loopg [4] 0 (fun gk s4 wx => s4 = .int .i64 0 ∧ wx = w)
  case atStart => exact ⟨by first | rfl | simp, rfl⟩
  case round =>
    obtain ⟨rfl, rfl⟩ := hrel
    go_wp2
    refine bodyPost_ret (v := .tuple #[.string ⟨#[]⟩, .bool false]) ?_ rfl ⟨rfl, rfl⟩
    simp only [results, hresAfter]
    go_simp

set_option maxHeartbeats 2000000 in
theorem prefixIn (n : Nat) (p0 : Option Addr) (p : ByteArray) (w : World) :
    CallsIn Fence.wide n Try.prog 50 #[.pointer p0, .string p] w fun e w' => e = .returned (.func (.func 58) #[] #[.pointer (some ⟨w.heap.size + 1, 0, none⟩), .pointer (some ⟨w.heap.size, 0, none⟩)]) ∧ w' = (w.alloc (.cells #[.pointer p0] 23)).alloc (.cells #[.string p] 9) := by
  refine callsIn_of_wp Try.func50 rfl trivial ?_ rfl
  simp only [Try.ntmps50, List.size_toArray, List.length_cons, List.length_nil, Nat.reduceAdd, Nat.reduceSub, Array.replicate_succ, Array.replicate_zero, List.push_toArray, List.append_toArray, List.nil_append, List.cons_append]
  gi_wp2
  go_ret
  exact ⟨rfl, rfl⟩

theorem EmptyAt.tree {da : Option Addr} {w : World} (h : EmptyAt w da) (n₀ : Nat) : TreeAt (fun g => g < n₀) w 0 none [] := ⟨rfl, rfl⟩

set_option maxRecDepth 100000 in
set_option maxHeartbeats 4000000 in
theorem prefix1E {da : Option Addr} (n : Nat) (hn : 1 ≤ n) (l B : Nat) (W : World) (h : EmptyAt W da) (hcd : W.cell? ⟨B, 0, none⟩ = some (.pointer da)) (hcp : W.cell? ⟨B + 1, 0, none⟩ = some (.string ⟨#[]⟩)) :
    CallsIn Fence.wide n Try.prog 58 #[.func (.yield l) #[] #[], .pointer (some ⟨B + 1, 0, none⟩), .pointer (some ⟨B, 0, none⟩)] W fun e W' => (∃ v, e = .returned v) ∧ Below W.heap.size W W' := by
  have hdd : ∀ k : Nat, (Fence.wide.depth.isSome = true → 1 ≤ k) := fun k h => by cases h
  obtain ⟨W0, hw0⟩ : ∃ W0, W.alloc (.cells #[.func (.yield l) #[] #[]] 89) = W0 := ⟨_, rfl⟩
  have hb0 : Below W.heap.size W W0 := by rw [← hw0]; exact (Below.refl _ _).alloc (Nat.le_refl _) _
  have hcd0 := (hb0.cell (p := ⟨B, 0, none⟩) (cell_lt hcd)).trans hcd
  have hcp0 := (hb0.cell (p := ⟨B + 1, 0, none⟩) (cell_lt hcp)).trans hcp
  have HA : Hid (CallsIn Fence.wide (n - 1) Try.prog 59 #[.string ⟨#[]⟩] W0 fun e w' => e = .returned (.tuple #[.string ⟨#[]⟩, .bool false]) ∧ w' = W0) := callsIn_wide.2 (afterNone W0)
  obtain ⟨W1, hw1⟩ : ∃ W1, ((W0.alloc (.cells #[.pointer da] 23)).alloc (.cells #[.string ⟨#[]⟩] 9)).alloc (.cells #[.string ⟨#[]⟩] 9) = W1 := ⟨_, rfl⟩
  have HAL : Hid (CallsIn Fence.wide (n - 1) Try.prog 49 #[.pointer da, .string ⟨#[]⟩, .string ⟨#[]⟩] W0 fun e w' => e = .returned (.func (.func 56) #[] #[.pointer (some ⟨W0.heap.size, 0, none⟩), .pointer (some ⟨W0.heap.size + 1, 0, none⟩), .pointer (some ⟨W0.heap.size + 2, 0, none⟩)]) ∧ w' = W1) := by
    have h := allIn (n - 1) da ⟨#[]⟩ ⟨#[]⟩ W0
    rw [hw1] at h
    exact h
  have hs1 : W1.heap.size = W0.heap.size + 3 := by rw [← hw1]; simp
  have hb01 : Below W0.heap.size W0 W1 := by rw [← hw1]; exact (((Below.refl _ _).alloc (Nat.le_refl _) _).alloc (by simp) _).alloc (by simp; omega) _
  have hb1 : Below W.heap.size W W1 := hb0.trans (hb01.mono hb0.size)
  have hsz0 := hb0.size
  have hcap : CapAt W1 W0.heap.size (.pointer da) ⟨#[]⟩ ⟨#[]⟩ := by
    rw [← hw1]
    have e1 : (W0.alloc (.cells #[.pointer da] 23)).heap.size = W0.heap.size + 1 := by simp
    have e2 : ((W0.alloc (.cells #[.pointer da] 23)).alloc (.cells #[.string ⟨#[]⟩] 9)).heap.size = W0.heap.size + 2 := by simp
    have k1 : (W0.alloc (.cells #[.pointer da] 23)).cell? ⟨W0.heap.size, 0, none⟩ = some (.pointer da) := World.cell?_alloc_at _ _ _ _ rfl
    have k2 : ((W0.alloc (.cells #[.pointer da] 23)).alloc (.cells #[.string ⟨#[]⟩] 9)).cell? ⟨W0.heap.size + 1, 0, none⟩ = some (.string ⟨#[]⟩) := by rw [← e1]; exact World.cell?_alloc_at _ _ _ _ rfl
    refine ⟨?_, ?_, ?_⟩
    · exact cell_kept (cell_kept k1 (World.grownBy_alloc _ _ none) (fun r e => by cases e)) (World.grownBy_alloc _ _ none) (fun r e => by cases e)
    · exact cell_kept k2 (World.grownBy_alloc _ _ none) (fun r e => by cases e)
    · rw [← e2]; exact World.cell?_alloc_at _ _ _ _ rfl
  have hseq := allStops da (n - 1) none ⟨#[]⟩ ⟨#[]⟩ (by decide) (by decide) W.heap.size W0.heap.size 0 [] W1 (by omega) (by omega) hcap (fun u hu => topE ((h.later hb1).later hu)) ⟨rfl, rfl⟩ Srt.nil
  refine callsIn_of_wp_marks Try.func58 rfl trivial ?_ rfl
  simp only [Try.ntmps58, List.size_toArray, List.length_cons, List.length_nil, Nat.reduceAdd, Nat.reduceSub, Array.replicate_succ, Array.replicate_zero, List.push_toArray, List.append_toArray, List.nil_append, List.cons_append]
  gi_wp2_with fail
  refine ⟨trivial, HA.out.mono ?_⟩
  rintro e wk ⟨rfl, hwk⟩
  obtain rfl := hwk.symm
  gi_wp2_with fail
  refine ⟨trivial, HAL.out.mono ?_⟩
  rintro e wk ⟨rfl, hwk⟩
  obtain rfl := hwk.symm
  gi_wp2_with fail
  refine wpIn_rangeFunc_ownH rfl hn (gf := 56) (lb := #[.pointer (some ⟨W0.heap.size, 0, none⟩), .pointer (some ⟨W0.heap.size + 1, 0, none⟩), .pointer (some ⟨W0.heap.size + 2, 0, none⟩)]) rfl trivial (enters_of Try.func56 (by kernel_rfl) rfl) hseq belowK_t (belowK_b (by omega)) (Below.refl _ _) (fun _ => rfl)
    (fun _ u => Below W.heap.size W u) (fun _ _ _ => False)
    (fun s A A' row h1 hg hr => h1.grown hg h1.size (fun k e => by have := (hr k e).1; omega))
    (fun _ _ _ _ _ h _ _ => h)
    hb1 (fun _ _ _ => True) (fun _ _ _ _ _ _ _ _ _ => trivial) ?assign ?body ?done ?stop
  case assign =>
    intro l' pre x V K hI hK
    gi_wp2
    exact hK _ _ ((KeepsOthers.alloc _ _).from _) ((Below.refl _ V).alloc hI.size _) (hI.alloc hI.size _) trivial
  case body =>
    rintro l' pre x a' V hl0 hrc hI hA hN
    exact absurd hN (by simp [rngL])
  case done =>
    rintro D ys V hD hys hI hK
    gi_wp2
    refine ⟨by simp, .inl ⟨_, _, rfl, run_takeDeferred hK, ?_⟩⟩
    exact ⟨_, results_none rfl _ _ _, ⟨_, rfl⟩, hI.trans (belowK_b (w := W) (Nat.le_refl _) V D _ _ (by omega) hK rfl rfl)⟩
  case stop =>
    rintro D c pre V hD hpre hF hK
    exact hF.elim

/-- Prefix of a dir without keys gives nothing. -/
theorem prefixStops {da : Option Addr} (n : Nat) (hn : 1 ≤ n) (n₀ B : Nat) (w : World) (h : EmptyAt w da) (hcd : w.cell? ⟨B, 0, none⟩ = some (.pointer da)) (hcp : w.cell? ⟨B + 1, 0, none⟩ = some (.string ⟨#[]⟩)) :
    SeqStopsK Fence.wide n Try.prog 58 #[.pointer (some ⟨B + 1, 0, none⟩), .pointer (some ⟨B, 0, none⟩)] kencs (Below n₀) (fun ys => ys = []) (fun pre => pre <+: []) 0 w := fun l J Jx W hW hJ _ hY h0 =>
  (prefix1E n hn l B W (h.later hW) ((hW.cell (p := ⟨B, 0, none⟩) (cell_lt hcd)).trans hcd) ((hW.cell (p := ⟨B + 1, 0, none⟩) (cell_lt hcp)).trans hcp)).mono fun e W' ⟨h1, h2⟩ => ⟨h1, .inl ⟨[], rfl, hJ [] W W' none h0 (below_grow h2 none) (fun r e => by cases e)⟩⟩
end Go.Proofs.Ytjhbaplnkigifaa
