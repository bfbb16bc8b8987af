import Derived.Test.YthfnbcicpcbgjaaKml
/-! keydir: the law's laid. -/
namespace Go.Proofs.Ythfnbcicpcbgjaa
open Go.RowKit Plain
set_option linter.unusedVariables false
set_option linter.unusedSimpArgs false

def layK (l : List Ke) (x : Kr) : List Ke := if okKey x.key then insL x.key x.ke.e l else l
def laidL (st : List Kr) : List Ke := st.foldl layK []
theorem laidL_snoc (st : List Kr) (x : Kr) : laidL (st ++ [x]) = layK (laidL st) x := by simp [laidL]
theorem laidL_len_aux : ∀ (st : List Kr) (l : List Ke), (st.foldl layK l).length ≤ l.length + st.length
  | [], l => by simp
  | x :: st, l => by
    have := laidL_len_aux st (layK l x)
    have h2 : (layK l x).length ≤ l.length + 1 := by
      unfold layK
      split
      · exact insL_len _ _ _
      · omega
    simp only [List.foldl_cons, List.length_cons]
    omega
theorem laidL_len (st : List Kr) : (laidL st).length ≤ st.length := by
  have := laidL_len_aux st []
  simpa [laidL] using this
theorem find_lay (key : ByteArray) (l : List Ke) (x : Kr) : findL key (layK l x) = if kc key x.key = 0 ∧ okKey x.key = true then some x.ke else findL key l := by
  unfold layK
  by_cases h : okKey x.key = true
  · rw [if_pos h, findL_ins]
    by_cases h0 : kc key x.key = 0
    · rw [if_pos h0, if_pos ⟨h0, h⟩]; rfl
    · rw [if_neg h0, if_neg (fun h2 => h0 h2.1)]
  · rw [if_neg h, if_neg (fun h2 => h h2.2)]
theorem find_laid_aux (key : ByteArray) : ∀ (n : Nat) (st : List Kr), st.length = n → findL key (laidL st) = (lastK key st).map Kr.ke
  | 0, st, h => by
    have : st = [] := List.eq_nil_of_length_eq_zero h
    subst this
    unfold lastK
    split <;> rfl
  | n + 1, st, h => by
    have hne : st ≠ [] := by intro e; rw [e] at h; simp at h
    obtain ⟨s', x, rfl⟩ : ∃ s' x, st = s' ++ [x] := ⟨st.dropLast, st.getLast hne, (List.dropLast_concat_getLast hne).symm⟩
    have ih := find_laid_aux key n s' (by simpa using h)
    rw [laidL_snoc, find_lay, ih]
    unfold lastK
    rw [lastM_snoc]
    by_cases h0 : kc key x.key = 0
    · have hk := kc_zero h0
      rw [← hk]
      by_cases h1 : okKey key = true
      · simp [h1, kc_self]
      · simp [h1]
    · simp [h0]
theorem find_laid (key : ByteArray) (st : List Kr) : findL key (laidL st) = (lastK key st).map Kr.ke := find_laid_aux key _ st rfl

theorem DirAt.more {D D' : Nat → Prop} {w : World} {gd : Nat} {l : List Ke} (h : DirAt D w gd l) (h1 : ∀ g, D g → D' g) (h2 : ∀ g, D' g → D g ∨ w.heap.size ≤ g) : DirAt D' w gd l := by
  obtain ⟨k1, k2, k3, n, p, k4, k5⟩ := h
  exact ⟨h1 _ k1, k2, k3, n, p, k4, k5.tight fun g hg hlt hd => (h2 g hd).elim hg (fun h => by omega)⟩
theorem DirAt.less {D D' : Nat → Prop} {w : World} {gd : Nat} {l : List Ke} (h : DirAt D' w gd l) (h1 : ∀ g, D g → D' g) (h2 : D gd) : DirAt D w gd l := by
  obtain ⟨k1, k2, k3, n, p, k4, k5⟩ := h
  exact ⟨h2, k2, k3, n, p, k4, k5.weak fun g hg hd => hg (h1 g hd)⟩
/-- A dir stands when an answer is laid down in a block that no node lies in. -/
theorem DirAt.put {D : Nat → Prop} {w : World} {gd R : Nat} {l : List Ke} (h : DirAt D w gd l) (hR : D R) (hne : R ≠ gd) (e : En) : DirAt D (putEn w R e) gd l :=
  h.kept ((putEn_grow w R e).block gd h.lt (fun e' => hne (by cases e'; rfl))) fun g hg hd => (putEn_grow w R e).block g hg (fun e' => hd (by cases e'; exact hR))

theorem hresLaid : Try.f18.results = #[.tmp 2, .tmp 3] := by kernel_rfl
set_option maxHeartbeats 4000000 in
theorem laidOf (D : Nat → Prop) (v : Value) (st : List Kr) (w : World) (h : KrsAt w v st) (hD0 : D w.heap.size) (hD1 : ∀ g, w.heap.size < g → ¬ D g) : Calls Try.prog 18 #[v] w fun e w' => e = .returned (.tuple #[.pointer (some ⟨w.heap.size, 0, none⟩), .bool true]) ∧ Below w.heap.size w w' ∧ DirAt D w' w.heap.size (laidL st) := by
  obtain ⟨w0, hw0⟩ : ∃ w0, w.alloc (.cells #[.pointer none] 63) = w0 := ⟨_, rfl⟩
  have hs0 : w0.heap.size = w.heap.size + 1 := by rw [← hw0]; simp
  have hb0 : Below w.heap.size w w0 := by rw [← hw0]; exact (Below.refl _ _).alloc (Nat.le_refl _) _
  have HD0 : Hid (DirAt D w0 w.heap.size []) := by rw [← hw0]; exact DirAt.new D w hD0
  have HKR : Hid (∀ u, Below w.heap.size w u → KrsAt u v st) := fun u hu => h.later hu
  obtain ⟨a, cap, rfl, hcl, hok, hcells⟩ := h
  have HOK : Hid (∀ m, m < st.length → (st.getD m Kr.zero).Ok) := fun m hm => by
    rw [List.getD_eq_getElem?_getD, List.getElem?_eq_getElem hm]
    exact hok _ (List.getElem_mem hm)
  have HCE : Hid (∀ u m, Below w.heap.size w u → m < st.length → ∃ b off, a = some ⟨b, off, none⟩ ∧ Kr.CellsAt u b (off + m * 7) (st.getD m Kr.zero)) := fun u m hu hm => by
    obtain ⟨b, off, e, hc⟩ := hcells (by intro e; rw [e] at hm; simp at hm)
    exact ⟨b, off, e, (hc m hm).block (hu.block _ (hc m hm).lt)⟩
  clear hcells hok
  go_enter Try.func18, Try.ntmps18
  go_wp2_with fail
  refine (newOf w).mono ?_
  rintro e wk ⟨rfl, hwk⟩
  rw [hw0] at hwk
  subst hwk
  go_wp2
  go_loopg [5] st.length (fun gk s5 wx => ∃ (m : Nat), m + gk = st.length ∧ s5 = .int .i64 m ∧ Hid (Below w.heap.size w wx) ∧ Hid (w.heap.size + 1 ≤ wx.heap.size) ∧ Hid (DirAt D wx w.heap.size (laidL (st.take m))))
  case atStart => exact ⟨0, by omega, rfl, hb0, by unfold Hid; omega, HD0.out⟩
  case round =>
    obtain ⟨m, hgm, rfl, HB, HS, HD⟩ := hrel
    cases gk with
    | zero =>
      obtain rfl : m = st.length := by omega
      have HF : Hid (DirAt D wr w.heap.size (laidL st)) := by
        have h := HD.out
        rw [List.take_length] at h
        exact h
      go_wp2
      refine bodyPost_ret (v := .tuple #[.pointer (some ⟨w.heap.size, 0, none⟩), .bool true]) ?_ rfl ⟨rfl, HB.out, HF.out⟩
      simp only [results, hresLaid]
      go_simp
    | succ gk1 =>
      obtain ⟨b, off, rfl, hc⟩ := HCE.out wr m HB.out (by omega)
      have hxo := HOK.out m (by omega)
      have HT : Hid (laidL (st.take (m + 1)) = layK (laidL (st.take m)) (st.getD m Kr.zero)) := by unfold Hid; rw [take_succ_getD (by omega), laidL_snoc]
      have HLN : Hid ((laidL (st.take m)).length ≤ 2199023255500) := by
        have h1 := laidL_len (st.take m)
        have h2 : (st.take m).length ≤ st.length := by simp; omega
        exact Nat.le_trans h1 (Nat.le_trans h2 hcl)
      have HCX : Hid (∀ u, Below wr.heap.size wr u → Kr.CellsAt u b (off + m * 7) (st.getD m Kr.zero)) := fun u hu => hc.block (hu.block _ hc.lt)
      have hbl : b < w.heap.size := by
        obtain ⟨b', off', e, hc'⟩ := HCE.out w m (Below.refl _ _) (by omega)
        cases e
        exact hc'.lt
      generalize hxe : st.getD m Kr.zero = x at hc hxo HT HCX
      obtain ⟨xk, xa, xb, xc, xd, xt, xm⟩ := x
      have hxk : xk.size ≤ maxLen := hxo.key
      have hmi : (m : Int) < (st.length : Int) := by omega
      have HGD : Hid (∀ u, Calls Try.prog 11 #[.string xk] u fun e w' => e = .returned (.bool (okKey xk)) ∧ w' = u) := fun u => goodOf xk u hxk
      obtain ⟨c0, c1, c2, c3, c4, c5, c6⟩ := hc
      simp only at c0 c1 c2 c3 c4 c5 c6
      clear hxo hxe
      by_cases hgd : okKey xk = true
      · have hsz : 1 ≤ xk.size ∧ xk.size ≤ 64 := by simpa [okKey] using hgd
        have HP : Hid (∀ u, Below wr.heap.size wr u → Calls Try.prog 27 #[.pointer (some ⟨w.heap.size, 0, none⟩), .string xk, En.v ⟨xa, xb, xc, xd, xt, xm⟩] u fun e w' => e = .returned (.tuple #[(gotE (findL xk (laidL (st.take m)))).v, .bool (findL xk (laidL (st.take m))).isSome, .int .i64 0]) ∧ u.grownBy w' (some w.heap.size) ∧ DirAt D w' w.heap.size (insL xk ⟨xa, xb, xc, xd, xt, xm⟩ (laidL (st.take m)))) := fun u hu => putOf xk ⟨xa, xb, xc, xd, xt, xm⟩ u (fun g hg => hD1 g (by have := HS.out; have := hu.size; omega)) (HD.out.later hu) hsz.1 hsz.2 (by have := HLN.out; omega)
        have HGW : Hid (∀ u, Calls Try.prog 11 #[.string xk] u fun e w' => e = .returned (.bool true) ∧ w' = u) := by rw [← hgd]; exact HGD
        have HTX : Hid (laidL (st.take (m + 1)) = insL xk ⟨xa, xb, xc, xd, xt, xm⟩ (laidL (st.take m))) := by
          unfold Hid
          rw [HT.out]
          unfold layK
          rw [if_pos hgd]
          rfl
        clear hgd HT HGD
        obtain ⟨wz, hwz⟩ : ∃ wz, wr.alloc (.cells #[.int .i64 0, .int .i64 0, .int .i64 0, .int .i64 0, .int .i64 0, .bool false] 26) = wz := ⟨_, rfl⟩
        have hsz1 : wz.heap.size = wr.heap.size + 1 := by rw [← hwz]; simp
        have hbz : Below wr.heap.size wr wz := by rw [← hwz]; exact (Below.refl _ _).alloc (Nat.le_refl _) _
        have HZ : Hid (EnAt wz wr.heap.size En.zero ∧ ∀ j, wz.frozen? ⟨wr.heap.size, j, none⟩ = false) := ⟨by rw [← hwz]; exact EnAt.new wr En.zero, fun j => by rw [← hwz]; exact World.frozen?_alloc_at _ _ _ _ rfl⟩
        have HWZ : Hid (wr.alloc (.cells #[.int .i64 0, .int .i64 0, .int .i64 0, .int .i64 0, .int .i64 0, .bool false] 26) = wz) := hwz
        generalize hold : gotE (findL xk (laidL (st.take m))) = old
        generalize hhad : (findL xk (laidL (st.take m))).isSome = had
        have HPA : Hid (Calls Try.prog 27 #[.pointer (some ⟨w.heap.size, 0, none⟩), .string xk, En.v ⟨xa, xb, xc, xd, xt, xm⟩] wz.drew fun e w' => e = .returned (.tuple #[old.v, .bool had, .int .i64 0]) ∧ wz.drew.grownBy w' (some w.heap.size) ∧ DirAt (fun g => D g ∨ g = wr.heap.size) w' w.heap.size (insL xk ⟨xa, xb, xc, xd, xt, xm⟩ (laidL (st.take m)))) := by
          have h := putOf (D := fun g => D g ∨ g = wr.heap.size) xk ⟨xa, xb, xc, xd, xt, xm⟩ wz.drew (fun g hg hd => hd.elim (hD1 g (by have := HS.out; have e : wz.drew.heap.size = wz.heap.size := rfl; omega)) (fun e' => by have e : wz.drew.heap.size = wz.heap.size := rfl; omega)) ((HD.out.more (D' := fun g => D g ∨ g = wr.heap.size) (fun g h => .inl h) (fun g h => h.elim .inl (fun h => .inr (by omega)))).later (Below.drew hbz)) hsz.1 hsz.2 (by have := HLN.out; omega)
          rw [hold, hhad] at h
          exact h
        have HPB : Hid (Calls Try.prog 27 #[.pointer (some ⟨w.heap.size, 0, none⟩), .string xk, En.v ⟨xa, xb, xc, xd, xt, xm⟩] wr.drew fun e w' => e = .returned (.tuple #[old.v, .bool had, .int .i64 0]) ∧ wr.drew.grownBy w' (some w.heap.size) ∧ DirAt D w' w.heap.size (insL xk ⟨xa, xb, xc, xd, xt, xm⟩ (laidL (st.take m)))) := by
          have h := putOf xk ⟨xa, xb, xc, xd, xt, xm⟩ wr.drew (fun g hg => hD1 g (by have := HS.out; have e : wr.drew.heap.size = wr.heap.size := rfl; omega)) (HD.out.later (Below.drew (Below.refl _ _))) hsz.1 hsz.2 (by have := HLN.out; omega)
          rw [hold, hhad] at h
          exact h
        have hne1 : ¬ b = wr.heap.size := by have := HS.out; omega
        have hne2 : ¬ wr.heap.size = b := by have := HS.out; omega
        obtain ⟨v0, v1, v2, v3, v4, v5, v6⟩ := HCX.out wz hbz
        simp only at v0 v1 v2 v3 v4 v5 v6
        clear hold hhad HP HLN
        go_wp2
        go_region_held3 (fun w' => w'.cell? ⟨b, off + m * 7, none⟩ = some (.string xk) ∧ w'.cell? ⟨b, off + m * 7 + 1, none⟩ = some (.int .i64 xa) ∧ w'.cell? ⟨b, off + m * 7 + 2, none⟩ = some (.int .i64 xb) ∧ w'.cell? ⟨b, off + m * 7 + 3, none⟩ = some (.int .i64 xc) ∧ w'.cell? ⟨b, off + m * 7 + 4, none⟩ = some (.int .i64 xd) ∧ w'.cell? ⟨b, off + m * 7 + 5, none⟩ = some (.int .i64 xt) ∧ w'.cell? ⟨b, off + m * 7 + 6, none⟩ = some (.bool xm)) (go_keep) (first
          | (go_at_call 27
             refine HPB.out.mono ?_
             rintro e w3 ⟨rfl, hg3, hd3⟩
             have hgw3 : wr.grownBy w3 (some w.heap.size) := grow_trans (below_grow (Below.drew (Below.refl _ wr)) _) hg3 (.inl rfl)
             have HB3 : Hid (Below w.heap.size w w3) := HB.out.trans (grow_below hgw3 HB.out.size (fun g e => by cases e; exact Nat.le_refl _))
             have HS3 : Hid (wr.heap.size ≤ w3.heap.size) := hgw3.size
             have HD3 : Hid (DirAt D w3 w.heap.size (insL xk ⟨xa, xb, xc, xd, xt, xm⟩ (laidL (st.take m)))) := hd3
             have h1 := (HCX.out wr (Below.refl _ _)).block (hgw3.block b (Nat.lt_of_lt_of_le hbl HB.out.size) (fun e => by cases e; omega))
             have HC3 : Hid (Kr.CellsAt w3 b (off + m * 7) ⟨xk, xa, xb, xc, xd, xt, xm⟩) := h1
             rcases h1 with ⟨q0, q1, q2, q3, q4, q5, q6⟩
             simp only at q0 q1 q2 q3 q4 q5 q6
             clear hg3 hd3 hgw3 HPA HPB)
          | (go_at_call 27
             refine HPA.out.mono ?_
             rintro e w3 ⟨rfl, hg3, hd3⟩
             have hgw3 : wr.grownBy w3 (some w.heap.size) := grow_trans (below_grow (Below.drew hbz) _) hg3 (.inl rfl)
             have HB3 : Hid (Below w.heap.size w w3) := HB.out.trans (grow_below hgw3 HB.out.size (fun g e => by cases e; exact Nat.le_refl _))
             have HS3 : Hid (wr.heap.size + 1 ≤ w3.heap.size) := by have := hg3.size; have e : wz.drew.heap.size = wz.heap.size := rfl; unfold Hid; omega
             have HD3 : Hid (DirAt (fun g => D g ∨ g = wr.heap.size) w3 w.heap.size (insL xk ⟨xa, xb, xc, xd, xt, xm⟩ (laidL (st.take m)))) := hd3
             have h1 := (HCX.out wr (Below.refl _ _)).block (hgw3.block b (Nat.lt_of_lt_of_le hbl HB.out.size) (fun e => by cases e; omega))
             have HC3 : Hid (Kr.CellsAt w3 b (off + m * 7) ⟨xk, xa, xb, xc, xd, xt, xm⟩) := h1
             rcases h1 with ⟨q0, q1, q2, q3, q4, q5, q6⟩
             simp only at q0 q1 q2 q3 q4 q5 q6
             have hzb : w3.heap[wr.heap.size]? = wz.heap[wr.heap.size]? := hg3.block wr.heap.size (by show wr.heap.size < wz.heap.size; omega) (fun e => by have := HS.out; simp at e; omega)
             rcases HZ.out.1.block hzb with ⟨z0, z1, z2, z3, z4, z5⟩
             simp only [En.zero] at z0 z1 z2 z3 z4 z5
             have hfz : ∀ j, w3.frozen? ⟨wr.heap.size, j, none⟩ = false := fun j => (World.frozen?_of_block (w := wz) (a := ⟨wr.heap.size, j, none⟩) hzb).trans (HZ.out.2 j)
             have f0 := hfz 0
             have f1 := hfz 1
             have f2 := hfz 2
             have f3 := hfz 3
             have f4 := hfz 4
             have f5 := hfz 5
             clear hg3 hd3 hgw3 hzb hfz HPA HPB))
        · have hb34 : Below w3.heap.size w3 (w3.alloc (.cells #[.int .i64 old.seg, .int .i64 old.pos, .int .i64 old.size, .int .i64 old.off, .int .i64 old.time, .bool old.tomb] 26)) := (Below.refl _ _).alloc (Nat.le_refl _) _
          have HB4 : Hid (Below w.heap.size w (w3.alloc (.cells #[.int .i64 old.seg, .int .i64 old.pos, .int .i64 old.size, .int .i64 old.off, .int .i64 old.time, .bool old.tomb] 26))) := below_step' HB3.out hb34
          have HS4 : Hid (w.heap.size + 1 ≤ (w3.alloc (.cells #[.int .i64 old.seg, .int .i64 old.pos, .int .i64 old.size, .int .i64 old.off, .int .i64 old.time, .bool old.tomb] 26)).heap.size) := Nat.le_trans (Nat.le_trans HS.out HS3.out) hb34.size
          have HD4 : Hid (DirAt D (w3.alloc (.cells #[.int .i64 old.seg, .int .i64 old.pos, .int .i64 old.size, .int .i64 old.off, .int .i64 old.time, .bool old.tomb] 26)) w.heap.size (laidL (st.take (m + 1)))) := by unfold Hid; rw [HTX.out]; exact HD3.out.later hb34
          have HC4 : Hid (Kr.CellsAt (w3.alloc (.cells #[.int .i64 old.seg, .int .i64 old.pos, .int .i64 old.size, .int .i64 old.off, .int .i64 old.time, .bool old.tomb] 26)) b (off + m * 7) ⟨xk, xa, xb, xc, xd, xt, xm⟩) := HC3.out.block (hb34.block _ HC3.out.lt)
          clear hb34
          generalize w3.alloc (.cells #[.int .i64 old.seg, .int .i64 old.pos, .int .i64 old.size, .int .i64 old.off, .int .i64 old.time, .bool old.tomb] 26) = w4 at HB4 HS4 HD4 HC4 ⊢
          obtain ⟨p0, p1, p2, p3, p4, p5, p6⟩ := HC4.out
          simp only at p0 p1 p2 p3 p4 p5 p6
          clear c0 c1 c2 c3 c4 c5 c6 q0 q1 q2 q3 q4 q5 q6
          go_wp2_with fail
          refine (HGW.out w4).mono ?_
          rintro e wk ⟨rfl, hwk⟩
          obtain rfl := hwk.symm
          go_wp2
          go_roundg gk1
          case rel => exact ⟨m + 1, by omega, by go_num, HB4.out, HS4.out, HD4.out⟩
          case measure => exact Nat.lt_succ_self _
        · have gP := putEn_grow w3 wr.heap.size old
          have HB4 : Hid (Below w.heap.size w (putEn w3 wr.heap.size old)) := putEn_below old HB3.out (by have := HS.out; omega)
          have HS4 : Hid (w.heap.size + 1 ≤ (putEn w3 wr.heap.size old).heap.size) := by have h1 := HS.out; have h2 := HS3.out; have h3 := gP.size; unfold Hid; omega
          have HD4 : Hid (DirAt D (putEn w3 wr.heap.size old) w.heap.size (laidL (st.take (m + 1)))) := by
            unfold Hid
            rw [HTX.out]
            exact (HD3.out.put (.inr rfl) (by have := HS.out; omega) old).less (fun g h => .inl h) hD0
          have HC4 : Hid (Kr.CellsAt (putEn w3 wr.heap.size old) b (off + m * 7) ⟨xk, xa, xb, xc, xd, xt, xm⟩) := HC3.out.block (gP.block _ HC3.out.lt (fun e => by simp at e; omega))
          clear gP
          change Exit.then _ _ _ _ (putEn w3 wr.heap.size old)
          generalize putEn w3 wr.heap.size old = w4 at HB4 HS4 HD4 HC4 ⊢
          clear z0 z1 z2 z3 z4 z5 f0 f1 f2 f3 f4 f5
          obtain ⟨p0, p1, p2, p3, p4, p5, p6⟩ := HC4.out
          simp only at p0 p1 p2 p3 p4 p5 p6
          clear c0 c1 c2 c3 c4 c5 c6 q0 q1 q2 q3 q4 q5 q6
          go_wp2_with fail
          refine (HGW.out w4).mono ?_
          rintro e wk ⟨rfl, hwk⟩
          obtain rfl := hwk.symm
          go_wp2
          go_roundg gk1
          case rel => exact ⟨m + 1, by omega, by go_num, HB4.out, HS4.out, HD4.out⟩
          case measure => exact Nat.lt_succ_self _
      · have hgf : okKey xk = false := by simpa using hgd
        have HPQ : Hid (∀ u, Calls Try.prog 27 #[.pointer (some ⟨w.heap.size, 0, none⟩), .string xk, En.v ⟨xa, xb, xc, xd, xt, xm⟩] u fun e w' => e = .returned (.tuple #[En.zero.v, .bool false, .int .i64 42]) ∧ Below u.heap.size u w') := fun u => putBad xk ⟨xa, xb, xc, xd, xt, xm⟩ u hxk hgf
        have HGW : Hid (∀ u, Calls Try.prog 11 #[.string xk] u fun e w' => e = .returned (.bool false) ∧ w' = u) := by rw [← hgf]; exact HGD
        have HTX : Hid (laidL (st.take (m + 1)) = laidL (st.take m)) := by
          unfold Hid
          rw [HT.out]
          unfold layK
          rw [if_neg hgd]
        clear hgd hgf HT HGD
        obtain ⟨wz, hwz⟩ : ∃ wz, wr.alloc (.cells #[.int .i64 0, .int .i64 0, .int .i64 0, .int .i64 0, .int .i64 0, .bool false] 26) = wz := ⟨_, rfl⟩
        have hsz1 : wz.heap.size = wr.heap.size + 1 := by rw [← hwz]; simp
        have hbz : Below wr.heap.size wr wz := by rw [← hwz]; exact (Below.refl _ _).alloc (Nat.le_refl _) _
        have HZ : Hid (EnAt wz wr.heap.size En.zero ∧ ∀ j, wz.frozen? ⟨wr.heap.size, j, none⟩ = false) := ⟨by rw [← hwz]; exact EnAt.new wr En.zero, fun j => by rw [← hwz]; exact World.frozen?_alloc_at _ _ _ _ rfl⟩
        have HWZ : Hid (wr.alloc (.cells #[.int .i64 0, .int .i64 0, .int .i64 0, .int .i64 0, .int .i64 0, .bool false] 26) = wz) := hwz
        obtain ⟨old, hold⟩ : ∃ old, En.zero = old := ⟨_, rfl⟩
        rw [hold] at HPQ
        have HPA : Hid (Calls Try.prog 27 #[.pointer (some ⟨w.heap.size, 0, none⟩), .string xk, En.v ⟨xa, xb, xc, xd, xt, xm⟩] wz.drew fun e w' => e = .returned (.tuple #[old.v, .bool false, .int .i64 42]) ∧ wz.drew.grownBy w' (some w.heap.size) ∧ DirAt (fun g => D g ∨ g = wr.heap.size) w' w.heap.size (laidL (st.take m))) := (HPQ.out wz.drew).mono fun e w' ⟨h1, h2⟩ => ⟨h1, below_grow h2 _, ((HD.out.more (D' := fun g => D g ∨ g = wr.heap.size) (fun g h => .inl h) (fun g h => h.elim .inl (fun h => .inr (by omega)))).later (Below.drew hbz)).later h2⟩
        have HPB : Hid (Calls Try.prog 27 #[.pointer (some ⟨w.heap.size, 0, none⟩), .string xk, En.v ⟨xa, xb, xc, xd, xt, xm⟩] wr.drew fun e w' => e = .returned (.tuple #[old.v, .bool false, .int .i64 42]) ∧ wr.drew.grownBy w' (some w.heap.size) ∧ DirAt D w' w.heap.size (laidL (st.take m))) := (HPQ.out wr.drew).mono fun e w' ⟨h1, h2⟩ => ⟨h1, below_grow h2 _, (HD.out.later (Below.drew (Below.refl _ _))).later h2⟩
        have hne1 : ¬ b = wr.heap.size := by have := HS.out; omega
        have hne2 : ¬ wr.heap.size = b := by have := HS.out; omega
        obtain ⟨v0, v1, v2, v3, v4, v5, v6⟩ := HCX.out wz hbz
        simp only at v0 v1 v2 v3 v4 v5 v6
        clear hold HPQ HLN
        go_wp2
        go_region_held3 (fun w' => w'.cell? ⟨b, off + m * 7, none⟩ = some (.string xk) ∧ w'.cell? ⟨b, off + m * 7 + 1, none⟩ = some (.int .i64 xa) ∧ w'.cell? ⟨b, off + m * 7 + 2, none⟩ = some (.int .i64 xb) ∧ w'.cell? ⟨b, off + m * 7 + 3, none⟩ = some (.int .i64 xc) ∧ w'.cell? ⟨b, off + m * 7 + 4, none⟩ = some (.int .i64 xd) ∧ w'.cell? ⟨b, off + m * 7 + 5, none⟩ = some (.int .i64 xt) ∧ w'.cell? ⟨b, off + m * 7 + 6, none⟩ = some (.bool xm)) (go_keep) (first
          | (go_at_call 27
             refine HPB.out.mono ?_
             rintro e w3 ⟨rfl, hg3, hd3⟩
             have hgw3 : wr.grownBy w3 (some w.heap.size) := grow_trans (below_grow (Below.drew (Below.refl _ wr)) _) hg3 (.inl rfl)
             have HB3 : Hid (Below w.heap.size w w3) := HB.out.trans (grow_below hgw3 HB.out.size (fun g e => by cases e; exact Nat.le_refl _))
             have HS3 : Hid (wr.heap.size ≤ w3.heap.size) := hgw3.size
             have HD3 : Hid (DirAt D w3 w.heap.size (laidL (st.take m))) := hd3
             have h1 := (HCX.out wr (Below.refl _ _)).block (hgw3.block b (Nat.lt_of_lt_of_le hbl HB.out.size) (fun e => by cases e; omega))
             have HC3 : Hid (Kr.CellsAt w3 b (off + m * 7) ⟨xk, xa, xb, xc, xd, xt, xm⟩) := h1
             rcases h1 with ⟨q0, q1, q2, q3, q4, q5, q6⟩
             simp only at q0 q1 q2 q3 q4 q5 q6
             clear hg3 hd3 hgw3 HPA HPB)
          | (go_at_call 27
             refine HPA.out.mono ?_
             rintro e w3 ⟨rfl, hg3, hd3⟩
             have hgw3 : wr.grownBy w3 (some w.heap.size) := grow_trans (below_grow (Below.drew hbz) _) hg3 (.inl rfl)
             have HB3 : Hid (Below w.heap.size w w3) := HB.out.trans (grow_below hgw3 HB.out.size (fun g e => by cases e; exact Nat.le_refl _))
             have HS3 : Hid (wr.heap.size + 1 ≤ w3.heap.size) := by have := hg3.size; have e : wz.drew.heap.size = wz.heap.size := rfl; unfold Hid; omega
             have HD3 : Hid (DirAt (fun g => D g ∨ g = wr.heap.size) w3 w.heap.size (laidL (st.take m))) := hd3
             have h1 := (HCX.out wr (Below.refl _ _)).block (hgw3.block b (Nat.lt_of_lt_of_le hbl HB.out.size) (fun e => by cases e; omega))
             have HC3 : Hid (Kr.CellsAt w3 b (off + m * 7) ⟨xk, xa, xb, xc, xd, xt, xm⟩) := h1
             rcases h1 with ⟨q0, q1, q2, q3, q4, q5, q6⟩
             simp only at q0 q1 q2 q3 q4 q5 q6
             have hzb : w3.heap[wr.heap.size]? = wz.heap[wr.heap.size]? := hg3.block wr.heap.size (by show wr.heap.size < wz.heap.size; omega) (fun e => by have := HS.out; simp at e; omega)
             rcases HZ.out.1.block hzb with ⟨z0, z1, z2, z3, z4, z5⟩
             simp only [En.zero] at z0 z1 z2 z3 z4 z5
             have hfz : ∀ j, w3.frozen? ⟨wr.heap.size, j, none⟩ = false := fun j => (World.frozen?_of_block (w := wz) (a := ⟨wr.heap.size, j, none⟩) hzb).trans (HZ.out.2 j)
             have f0 := hfz 0
             have f1 := hfz 1
             have f2 := hfz 2
             have f3 := hfz 3
             have f4 := hfz 4
             have f5 := hfz 5
             clear hg3 hd3 hgw3 hzb hfz HPA HPB))
        · have hb34 : Below w3.heap.size w3 (w3.alloc (.cells #[.int .i64 old.seg, .int .i64 old.pos, .int .i64 old.size, .int .i64 old.off, .int .i64 old.time, .bool old.tomb] 26)) := (Below.refl _ _).alloc (Nat.le_refl _) _
          have HB4 : Hid (Below w.heap.size w (w3.alloc (.cells #[.int .i64 old.seg, .int .i64 old.pos, .int .i64 old.size, .int .i64 old.off, .int .i64 old.time, .bool old.tomb] 26))) := below_step' HB3.out hb34
          have HS4 : Hid (w.heap.size + 1 ≤ (w3.alloc (.cells #[.int .i64 old.seg, .int .i64 old.pos, .int .i64 old.size, .int .i64 old.off, .int .i64 old.time, .bool old.tomb] 26)).heap.size) := Nat.le_trans (Nat.le_trans HS.out HS3.out) hb34.size
          have HD4 : Hid (DirAt D (w3.alloc (.cells #[.int .i64 old.seg, .int .i64 old.pos, .int .i64 old.size, .int .i64 old.off, .int .i64 old.time, .bool old.tomb] 26)) w.heap.size (laidL (st.take (m + 1)))) := by unfold Hid; rw [HTX.out]; exact HD3.out.later hb34
          have HC4 : Hid (Kr.CellsAt (w3.alloc (.cells #[.int .i64 old.seg, .int .i64 old.pos, .int .i64 old.size, .int .i64 old.off, .int .i64 old.time, .bool old.tomb] 26)) b (off + m * 7) ⟨xk, xa, xb, xc, xd, xt, xm⟩) := HC3.out.block (hb34.block _ HC3.out.lt)
          clear hb34
          generalize w3.alloc (.cells #[.int .i64 old.seg, .int .i64 old.pos, .int .i64 old.size, .int .i64 old.off, .int .i64 old.time, .bool old.tomb] 26) = w4 at HB4 HS4 HD4 HC4 ⊢
          obtain ⟨p0, p1, p2, p3, p4, p5, p6⟩ := HC4.out
          simp only at p0 p1 p2 p3 p4 p5 p6
          clear c0 c1 c2 c3 c4 c5 c6 q0 q1 q2 q3 q4 q5 q6
          go_wp2_with fail
          refine (HGW.out w4).mono ?_
          rintro e wk ⟨rfl, hwk⟩
          obtain rfl := hwk.symm
          go_wp2
          go_roundg gk1
          case rel => exact ⟨m + 1, by omega, by go_num, HB4.out, HS4.out, HD4.out⟩
          case measure => exact Nat.lt_succ_self _
        · have gP := putEn_grow w3 wr.heap.size old
          have HB4 : Hid (Below w.heap.size w (putEn w3 wr.heap.size old)) := putEn_below old HB3.out (by have := HS.out; omega)
          have HS4 : Hid (w.heap.size + 1 ≤ (putEn w3 wr.heap.size old).heap.size) := by have h1 := HS.out; have h2 := HS3.out; have h3 := gP.size; unfold Hid; omega
          have HD4 : Hid (DirAt D (putEn w3 wr.heap.size old) w.heap.size (laidL (st.take (m + 1)))) := by
            unfold Hid
            rw [HTX.out]
            exact (HD3.out.put (.inr rfl) (by have := HS.out; omega) old).less (fun g h => .inl h) hD0
          have HC4 : Hid (Kr.CellsAt (putEn w3 wr.heap.size old) b (off + m * 7) ⟨xk, xa, xb, xc, xd, xt, xm⟩) := HC3.out.block (gP.block _ HC3.out.lt (fun e => by simp at e; omega))
          clear gP
          change Exit.then _ _ _ _ (putEn w3 wr.heap.size old)
          generalize putEn w3 wr.heap.size old = w4 at HB4 HS4 HD4 HC4 ⊢
          clear z0 z1 z2 z3 z4 z5 f0 f1 f2 f3 f4 f5
          obtain ⟨p0, p1, p2, p3, p4, p5, p6⟩ := HC4.out
          simp only at p0 p1 p2 p3 p4 p5 p6
          clear c0 c1 c2 c3 c4 c5 c6 q0 q1 q2 q3 q4 q5 q6
          go_wp2_with fail
          refine (HGW.out w4).mono ?_
          rintro e wk ⟨rfl, hwk⟩
          obtain rfl := hwk.symm
          go_wp2
          go_roundg gk1
          case rel => exact ⟨m + 1, by omega, by go_num, HB4.out, HS4.out, HD4.out⟩
          case measure => exact Nat.lt_succ_self _
end Go.Proofs.Ythfnbcicpcbgjaa
