import Derived.Test.YtdjaogailfipjaaBlk
namespace Go.Proofs.Ytdjaogailfipjaa.Plain

/-- The text in which no five bytes stand twice. -/
def bt (i : Nat) : Nat := if i % 2 = 0 then i / 2 % 256 else i / 512 % 256
def btext (n : Nat) : List Nat := (List.range n).map bt
theorem btext_len (n : Nat) : (btext n).length = n := by simp [btext]
theorem btext_get (n j : Nat) (h : j < n) : (btext n).getD j 0 = bt j := by simp [btext, List.getD_eq_getElem?_getD, h]
theorem btext_succ (n : Nat) : btext (n + 1) = btext n ++ [bt n] := by simp [btext, List.range_succ]
theorem bt_lt (i : Nat) : bt i < 256 := by unfold bt; split <;> omega

theorem bt_even (i : Nat) (h : i % 2 = 0) : bt i = i / 2 % 256 := by unfold bt; rw [if_pos h]
theorem bt_odd (i : Nat) (h : i % 2 = 1) : bt i = i / 512 % 256 := by unfold bt; rw [if_neg (by omega)]

/-- Of five bytes one is another one, however far back. -/
theorem bt_unlike (p q : Nat) (hq : q < p) (hp : p + 5 ≤ 4096) (h : ∀ k, k < 5 → bt (p + k) = bt (q + k)) : False := by
  have h0 := h 0 (by omega)
  have h1 := h 1 (by omega)
  have h2 := h 2 (by omega)
  have h3 := h 3 (by omega)
  have h4 := h 4 (by omega)
  simp only [Nat.add_zero] at h0
  rcases Nat.mod_two_eq_zero_or_one p with ep | ep <;> rcases Nat.mod_two_eq_zero_or_one q with eq | eq
  · rw [bt_even p ep, bt_even q eq] at h0
    rw [bt_odd (p + 1) (by omega), bt_odd (q + 1) (by omega)] at h1
    omega
  · rw [bt_even p ep, bt_odd q eq] at h0
    rw [bt_even (p + 2) (by omega), bt_odd (q + 2) (by omega)] at h2
    rw [bt_even (p + 4) (by omega), bt_odd (q + 4) (by omega)] at h4
    omega
  · rw [bt_odd p ep, bt_even q eq] at h0
    rw [bt_odd (p + 2) (by omega), bt_even (q + 2) (by omega)] at h2
    rw [bt_odd (p + 4) (by omega), bt_even (q + 4) (by omega)] at h4
    omega
  · rw [bt_odd p ep, bt_odd q eq] at h0
    rw [bt_even (p + 1) (by omega), bt_even (q + 1) (by omega)] at h1
    rw [bt_odd (p + 2) (by omega), bt_odd (q + 2) (by omega)] at h2
    omega

theorem btext_none (n j d m : Nat) (hn : n ≤ 4096) (h : Best (btext n) j d m) : m = 0 := by
  rcases h with ⟨h, _⟩ | ⟨h5, _, hl, hd1, hd2, _, hlen, _⟩
  · exact h
  · exfalso
    rw [btext_len] at hl
    refine bt_unlike j (j - d) (by omega) (by omega) fun k hk => ?_
    have := hlen.2.1 k (by omega)
    unfold Eqv at this
    rw [btext_get n _ (by omega), btext_get n _ (by omega)] at this
    rw [this]
    congr 1
    omega
end Go.Proofs.Ytdjaogailfipjaa.Plain
namespace Go.Proofs.Ytdjaogailfipjaa
open Go.RowKit Plain
set_option linter.unusedVariables false
set_option linter.unusedSimpArgs false

/-- Where no match is, the tokens are one literal. -/
theorem PreP.one {l : List Nat} {ts : List Tk} {i : Nat} (h : PreP l ts i) (hno : ∀ j d m, Best l j d m → m = 0) : (ts = [] ∧ i = 0) ∨ ∃ g, ts = [.lit g (l.take i)] ∧ 0 < i := by
  induction h using PreP.ind with
  | nil => exact .inl ⟨rfl, rfl⟩
  | @lit ts i g b h hlast hb hi he hn ih =>
    rcases ih with ⟨rfl, rfl⟩ | ⟨g', rfl, _⟩
    · right
      have hp := List.length_pos_iff.mpr hb
      refine ⟨g, ?_, by omega⟩
      rw [List.drop_zero] at he
      rw [Nat.zero_add, ← he]; rfl
    · exact absurd rfl (hlast g' _)
  | @mat ts i d n h hn hb ih =>
    have := hno i d n hb
    omega

set_option maxHeartbeats 400000 in
set_option maxRecDepth 1000000 in
theorem lnumber (v : Nat) (w : World) (hv : v ≤ 9223372036854775807) : Calls Try.prog 20 #[.int .i64 v] w fun e w' => e = .returned (.int .i64 (uv v).length) ∧ w' = w := by
  have h10 : (uv v).length ≤ 10 := uv_len10 (by omega)
  go_enter Try.func20, Try.ntmps20
  go_wp2
  go_loop [0, 3] (fun s0 s3 => ∃ u k : Nat, s0 = .int .i64 u ∧ s3 = .int .i64 k ∧ u ≤ 9223372036854775807 ∧ k ≤ 10 ∧ Hid (k + (uv u).length = (uv v).length + 1)) (fun s0 _ => (intOf s0).toNat)
  case atStart => exact ⟨v, 1, rfl, rfl, hv, by omega, by unfold Hid; omega⟩
  case round =>
    obtain ⟨u, k, rfl, rfl, hu, hk, HK⟩ := hrel
    by_cases h : u < 128
    · have HE : Hid (k = (uv v).length) := by
        have := HK.out
        rw [uv_lt h] at this
        simp at this
        exact this
      clear HK
      go_wp2
      go_ret
      exact ⟨ret1 (by rw [HE.out]), rfl⟩
    · have HE : Hid (k + 1 + (uv (u / 128)).length = (uv v).length + 1) := by
        have := HK.out
        rw [uv_ge h] at this
        simp at this
        unfold Hid
        omega
      have hk1 : k + 1 ≤ 10 := by
        have := HE.out
        have := uv_pos (u / 128)
        omega
      clear HK
      go_wp2
      go_round
      case rel => exact ⟨u / 128, k + 1, by go_num, by go_num, by omega, hk1, HE.out⟩
      case measure => simp [intOf]; omega

theorem calls_cast1 {f : Nat} {a b : Int} {w : World} {Q : Ending → World → Prop} (e : a = b) (h : Calls Try.prog f #[.int .u64 a] w Q) : Calls Try.prog f #[.int .u64 b] w Q := by rw [← e]; exact h

set_option maxHeartbeats 400000 in
set_option maxRecDepth 1000000 in
theorem boundOut (n : Int) (w : World) (h : n < 0 ∨ 4096 < n) : Calls Try.prog 18 #[.int .i64 n] w fun e w' => e = .returned (.int .i64 0) ∧ w' = w := by
  rcases h with h | h
  · go_enter Try.func18, Try.ntmps18
    go_wp2
    go_ret
    exact ⟨rfl, rfl⟩
  · have h0 : ¬ n < 0 := by omega
    go_enter Try.func18, Try.ntmps18
    go_wp2
    go_ret
    exact ⟨rfl, rfl⟩

set_option maxHeartbeats 400000 in
set_option maxRecDepth 1000000 in
theorem boundZero (w : World) : Calls Try.prog 18 #[.int .i64 0] w fun e w' => e = .returned (.int .i64 1) ∧ w' = w := by
  go_enter Try.func18, Try.ntmps18
  go_wp2
  go_ret
  exact ⟨rfl, rfl⟩

set_option maxHeartbeats 400000 in
set_option maxRecDepth 1000000 in
theorem boundIn (n : Nat) (w : World) (h0 : 1 ≤ n) (h : n ≤ 4096) : Calls Try.prog 18 #[.int .i64 n] w fun e w' => e = .returned (.int .i64 ((uv n).length + (uv (2 * n)).length + n : Nat)) ∧ Below w.heap.size w w' := by
  have h1 : (uv n).length ≤ 10 := uv_len10 (by omega)
  have h2 : (uv (2 * n)).length ≤ 10 := uv_len10 (by omega)
  go_enter Try.func18, Try.ntmps18
  go_wp2_with fail
  refine (uvarint n w (by omega)).mono ?_
  rintro e w1 ⟨v1, g1, rfl, ho1, hg1, hb1⟩
  obtain ⟨c1, rfl, _, _⟩ := ho1.shape
  have HB1 : Hid (Below w.heap.size w w1) := hb1
  clear ho1 hb1
  go_wp2_with fail
  refine (calls_cast1 (by simp) (uvarint (2 * n) w1 (by omega))).mono ?_
  rintro e w2 ⟨v2, g2, rfl, ho2, hg2, hb2⟩
  obtain ⟨c2, rfl, _, _⟩ := ho2.shape
  have HB2 : Hid (Below w.heap.size w w2) := HB1.out.trans (hb2.mono HB1.out.size)
  clear ho2 hb2
  go_wp2
  go_ret
  exact ⟨ret1 (by simp), HB2.out⟩

theorem uv4096 : (uv 4096).length + (uv (2 * 4096)).length + 4096 = 4100 := by
  have e1 : uv 4096 = [128, 32] := by rw [uv_ge (by omega), uv_lt (by omega)]
  have e2 : uv (2 * 4096) = [128, 64] := by rw [uv_ge (by omega), uv_lt (by omega)]
  rw [e1, e2]; rfl

theorem uv0 : uv 0 = [0] := uv_lt (by omega)

set_option maxHeartbeats 1000000 in
set_option maxRecDepth 1000000 in
theorem lawOut (n : Int) (w : World) (h : n < 0 ∨ 4096 < n) : Calls Try.prog 5 #[.int .i64 n] w fun e w' => e = .returned (.bool true) ∧ Below w.heap.size w w' := by
  have H0 : Hid (∀ w, Calls Try.prog 18 #[.int .i64 n] w fun e w' => e = .returned (.int .i64 0) ∧ w' = w) := fun w => boundOut n w h
  have H2 : Hid (∀ w, Calls Try.prog 18 #[.int .i64 4097] w fun e w' => e = .returned (.int .i64 0) ∧ w' = w) := fun w => boundOut 4097 w (by omega)
  have H1 : Hid (∀ w, Calls Try.prog 18 #[.int .i64 4096] w fun e w' => e = .returned (.int .i64 4100) ∧ Below w.heap.size w w') := fun w => by
    have := boundIn 4096 w (by omega) (by omega)
    rw [uv4096] at this
    exact this
  have hor : (decide (n < 0) || decide (4096 < n)) = true := by simpa using h
  by_cases h0 : n < 0
  all_goals
    go_enter Try.func5, Try.ntmps5
    go_wp2_with fail
    refine (H0.out w).mono ?_
    rintro e w' ⟨rfl, rfl⟩
    go_wp2_with fail
    refine (boundZero _).mono ?_
    rintro e w2 ⟨rfl, rfl⟩
    go_wp2_with fail
    refine (H1.out _).mono ?_
    rintro e w3 ⟨rfl, hb⟩
    have HB : Hid (Below w2.heap.size w2 w3) := hb
    clear hb
    go_wp2_with fail
    refine (H2.out _).mono ?_
    rintro e w4 ⟨rfl, rfl⟩
    go_wp2
    go_ret
    exact ⟨rfl, HB.out⟩

set_option maxHeartbeats 1000000 in
set_option maxRecDepth 1000000 in
theorem lawZero (w : World) : Calls Try.prog 5 #[.int .i64 0] w fun e w' => e = .returned (.bool true) ∧ Below w.heap.size w w' := by
  go_enter Try.func5, Try.ntmps5
  go_wp2_with fail
  refine (boundZero w).mono ?_
  rintro e w1 ⟨rfl, rfl⟩
  go_wp2_with fail
  refine (encodeOf _ [] w1 (BytesAt.nil w1) (by simp)).mono ?_
  rintro e w2 ⟨v2, r2, ts, rfl, hp, ho, hb, hr⟩
  have hts : ts = [] := by
    have := hp.count
    simpa using this
  subst hts
  have ho2 : Own w2 v2 [0] r2 := by
    have e : blk ([] : List Nat).length [] = [0] := by show uv 0 ++ [] = [0]; rw [uv0]; rfl
    rwa [e] at ho
  have HO : Hid (Own w2 v2 [0] r2) := ho2
  have HB : Hid (Below w1.heap.size w1 w2) := hb
  clear hp ho ho2 hb hr
  go_wp2_with fail
  refine (sameYes _ _ [0] _ (HO.out.bytes.later ((Below.refl _ _).alloc (Nat.le_refl _) _)) ?_).mono ?_
  · refine ⟨_, 1, rfl, by simp, by unfold maxLen; omega, by simp, fun _ => ⟨_, 0, rfl, fun j hj => ?_⟩⟩
    have hj0 : j = 0 := by simpa using hj
    subst hj0
    rw [World.cell?_alloc_at _ _ _ _ rfl]; rfl
  rintro e w3 ⟨rfl, nd, rfl⟩
  have HB3 : Hid (Below w1.heap.size w1 ((w2.alloc (.cells #[.int .u8 0] 5)).drewN nd)) := below_drewN (HB.out.trans (((Below.refl _ _).alloc (Nat.le_refl _) _).mono HB.out.size)) nd
  go_wp2
  go_ret
  exact ⟨rfl, HB3.out⟩

set_option maxHeartbeats 1000000 in
set_option maxRecDepth 1000000 in
theorem lawIn (n : Nat) (w : World) (h0 : 1 ≤ n) (h : n ≤ 4096) : Calls Try.prog 5 #[.int .i64 n] w fun e w' => e = .returned (.bool true) ∧ Below w.heap.size w w' := by
  have h1 : (uv n).length ≤ 10 := uv_len10 (by omega)
  have h2 : (uv (2 * n)).length ≤ 10 := uv_len10 (by omega)
  obtain ⟨x, hx⟩ : ∃ x, (uv n).length = x := ⟨_, rfl⟩
  obtain ⟨y, hy⟩ : ∃ y, (uv (2 * n)).length = y := ⟨_, rfl⟩
  have HX : Hid ((uv n).length = x ∧ (uv (2 * n)).length = y) := ⟨hx, hy⟩
  obtain ⟨G, hG⟩ : ∃ G, x + y + n = G := ⟨_, rfl⟩
  have hGI : (x : Int) + (y : Int) + (n : Int) = (G : Int) := by omega
  have HB : Hid (Calls Try.prog 18 #[.int .i64 n] w fun e w' => e = .returned (.int .i64 (G : Nat)) ∧ Below w.heap.size w w') := by
    have := boundIn n w h0 h
    rw [hx, hy, hG] at this
    exact this
  have HN1 : Hid (∀ w, Calls Try.prog 20 #[.int .i64 n] w fun e w' => e = .returned (.int .i64 (x : Nat)) ∧ w' = w) := fun w => by
    have := lnumber n w (by omega)
    rwa [hx] at this
  have HN2 : Hid (∀ w, Calls Try.prog 20 #[.int .i64 (2 * (n : Int))] w fun e w' => e = .returned (.int .i64 (y : Nat)) ∧ w' = w) := fun w => by
    have := lnumber (2 * n) w (by omega)
    rw [hy] at this
    simpa using this
  rw [hx] at h1
  rw [hy] at h2
  have HG : Hid (x + y + n = G) := hG
  clear hx hy hG
  go_enter Try.func5, Try.ntmps5
  go_wp2_with fail
  refine HB.out.mono ?_
  rintro e w1 ⟨rfl, hb1⟩
  have HB1 : Hid (Below w.heap.size w w1) := hb1
  clear hb1
  go_wp2_with fail
  refine (HN1.out w1).mono ?_
  rintro e w2 ⟨rfl, rfl⟩
  go_wp2_with fail
  refine (HN2.out w2).mono ?_
  rintro e w3 ⟨rfl, rfl⟩
  go_wp2
  have hs3 : w.heap.size ≤ w3.heap.size := HB1.out.size
  go_loopg [6, 7] n (fun gk s6 s7 wx => ∃ i : Nat, ∃ r, i + gk = n ∧ s7 = .int .i64 i ∧ Hid (Own wx s6 (btext i) r ∧ Below w.heap.size w wx ∧ ∀ g, r = some g → w.heap.size ≤ g))
  case atStart => exact ⟨0, none, by omega, rfl, Own.nil _, HB1.out, by simp⟩
  case round =>
    obtain ⟨i, r, hig, rfl, HI⟩ := hrel
    cases gk with
    | zero =>
      obtain rfl : i = n := by omega
      have HE : Hid (Calls Try.prog 19 #[u6] wr fun e w' => ∃ v' r', e = .returned (.tuple #[v', .int .i64 0]) ∧ (∃ c, v' = .slice r' G c) ∧ Below wr.heap.size wr w') := by
        refine (encodeOf u6 (btext i) wr HI.out.1.bytes (by rw [btext_len]; omega)).mono ?_
        rintro e w' ⟨v', r', ts, rfl, hp, ho, hb, _⟩
        obtain ⟨a', c', rfl⟩ := ho.isSlice
        refine ⟨_, a', rfl, ⟨c', ?_⟩, hb⟩
        have hlen : (blk (btext i).length ts).length = G := by
          rcases hp.one (fun j d m hb => btext_none i j d m h hb) with ⟨_, h0⟩ | ⟨g, rfl, _⟩
          · rw [btext_len] at h0; omega
          · rw [List.take_length]
            show (uv (btext i).length ++ ((uv (2 * (btext i).length) ++ btext i) ++ [])).length = G
            rw [List.append_nil, List.length_append, List.length_append, btext_len, HX.out.1, HX.out.2, ← HG.out]
            omega
        rw [hlen]
      go_wp2_with fail
      refine HE.out.mono ?_
      rintro e w4 ⟨v', r', rfl, ⟨c', rfl⟩, hb4⟩
      have HB4 : Hid (Below w.heap.size w w4) := HI.out.2.1.trans (hb4.mono HI.out.2.1.size)
      clear hb4
      go_wp2
      go_ret
      exact ⟨rfl, HB4.out⟩
    | succ g =>
      rcases Nat.mod_two_eq_zero_or_one i with hp | hp
      · obtain ⟨c, hcb⟩ : ∃ c, c = bt i := ⟨_, rfl⟩
        have hc0 : (i : Int) / 2 % 256 = (c : Int) := by rw [hcb, bt_even i hp]; omega
        have hm : ((i : Int) % 2 == 0) = true := by simp; omega
        have hm2 : (i : Int) % 2 = 0 := by omega
        clear hp
        have HC : Hid (c = bt i) := hcb
        clear hcb
        go_wp2_with (at_builtin; refine wpList_append_row _ rfl _ _ 22 22 rfl Try.underlying22 _ _ (btext i) [c] r rfl rfl ?hOwn ?hByte ?hSrc ?hLen ?_)
        case hOwn => exact HI.out.1.later ((Below.refl _ _).alloc (Nat.le_refl _) _)
        case hByte => intro z hz; simp at hz; subst hz; rw [HC.out]; exact bt_lt i
        case hSrc => exact src_one wr c 22 5 Try.underlying22
        case hLen => rw [btext_len]; simp; omega
        intro v4 w4 r4 ho4 hg4 hr4 hn4
        have HI4 : Hid (Own w4 v4 (btext (i + 1)) r4 ∧ Below w.heap.size w w4 ∧ ∀ g, r4 = some g → w.heap.size ≤ g) := by
          have hgw : wr.grownBy w4 r := grow_trans (below_grow ((Below.refl _ _).alloc (Nat.le_refl _) _) r) hg4 (.inl rfl)
          refine ⟨?_, HI.out.2.1.trans (grow_below hgw HI.out.2.1.size HI.out.2.2), fun g e => ?_⟩
          · rw [btext_succ, ← HC.out]; exact ho4
          · rcases hr4 with rfl | rfl
            · exact HI.out.2.2 g e
            · have := HI.out.2.1.size
              simp at e; omega
        clear ho4 hg4 hr4 hn4
        go_wp2
        go_roundg g
        case measure => omega
        case rel => exact ⟨i + 1, r4, by omega, by go_num, HI4.out⟩
      · obtain ⟨c, hcb⟩ : ∃ c, c = bt i := ⟨_, rfl⟩
        have hc0 : (i : Int) / 512 = (c : Int) := by rw [hcb, bt_odd i hp]; omega
        have hm : ((i : Int) % 2 == 0) = false := by simp; omega
        have hm2 : (i : Int) % 2 = 1 := by omega
        clear hp
        have HC : Hid (c = bt i) := hcb
        clear hcb
        go_wp2_with (at_builtin; refine wpList_append_row _ rfl _ _ 22 22 rfl Try.underlying22 _ _ (btext i) [c] r rfl rfl ?hOwn ?hByte ?hSrc ?hLen ?_)
        case hOwn => exact HI.out.1.later ((Below.refl _ _).alloc (Nat.le_refl _) _)
        case hByte => intro z hz; simp at hz; subst hz; rw [HC.out]; exact bt_lt i
        case hSrc => exact src_one wr c 22 5 Try.underlying22
        case hLen => rw [btext_len]; simp; omega
        intro v4 w4 r4 ho4 hg4 hr4 hn4
        have HI4 : Hid (Own w4 v4 (btext (i + 1)) r4 ∧ Below w.heap.size w w4 ∧ ∀ g, r4 = some g → w.heap.size ≤ g) := by
          have hgw : wr.grownBy w4 r := grow_trans (below_grow ((Below.refl _ _).alloc (Nat.le_refl _) _) r) hg4 (.inl rfl)
          refine ⟨?_, HI.out.2.1.trans (grow_below hgw HI.out.2.1.size HI.out.2.2), fun g e => ?_⟩
          · rw [btext_succ, ← HC.out]; exact ho4
          · rcases hr4 with rfl | rfl
            · exact HI.out.2.2 g e
            · have := HI.out.2.1.size
              simp at e; omega
        clear ho4 hg4 hr4 hn4
        go_wp2
        go_roundg g
        case measure => omega
        case rel => exact ⟨i + 1, r4, by omega, by go_num, HI4.out⟩

theorem lawAny (n : Int) (w : World) : Calls Try.prog 5 #[.int .i64 n] w fun e w' => e = .returned (.bool true) ∧ Below w.heap.size w w' := by
  by_cases h : n < 0 ∨ 4096 < n
  · exact lawOut n w h
  · by_cases h0 : n = 0
    · subst h0; exact lawZero w
    · obtain ⟨m, rfl⟩ : ∃ m : Nat, n = (m : Int) := ⟨n.toNat, by omega⟩
      exact lawIn m w (by omega) (by omega)
end Go.Proofs.Ytdjaogailfipjaa
