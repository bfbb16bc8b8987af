import Derived.Test.YtpeejgnkdoeijaaMcF
import Derived.Test.YtpeejgnkdoeijaaCWalkB
import Derived.Test.YtpeejgnkdoeijaaCOrd
/-! manifest: which catalogues may be: the pieces. -/
namespace Go.Proofs.Ytpeejgnkdoeijaa
open Go.RowKit Plain
set_option linter.unusedVariables false
set_option linter.unusedSimpArgs false

/-- A slice of topics, within its room. -/
def TesIn (w : World) (v : Value) (l : List Te) : Prop := TesAt w v l ∧ ∀ a n c, v = .slice a n c → n ≤ c
theorem TesIn.later {w w' : World} {v : Value} {l : List Te} (h : TesIn w v l) (hb : Below w.heap.size w w') : TesIn w' v l := ⟨h.1.later hb, h.2⟩
theorem getT_take {l : List Te} {n j : Nat} (h : j < n) : (l.take n).getD j Te.zero = l.getD j Te.zero := by
  simp [List.getD_eq_getElem?_getD, h]
theorem TesAt.take {w : World} {a : Option Addr} {n cap : Nat} {l : List Te} (h : TesAt w (.slice a n cap) l) (k : Nat) (hk : k ≤ l.length) : TesAt w (.slice a k cap) (l.take k) := by
  obtain ⟨a', cap', e, h1, h2, h3⟩ := h
  simp at e
  obtain ⟨rfl, rfl, rfl⟩ := e
  have hl : (l.take k).length = k := by simp; omega
  refine ⟨a, cap, by rw [hl], by rw [hl]; omega, fun z hz => h2 z (List.mem_of_mem_take hz), fun hne => ?_⟩
  have hk0 : 0 < k := by
    rcases Nat.eq_zero_or_pos k with rfl | h
    · simp at hne
    · exact h
  obtain ⟨b, off, e2, hc⟩ := h3 (by intro e; rw [e] at hk; simp at hk; omega)
  refine ⟨b, off, e2, fun j hj => ?_⟩
  rw [hl] at hj
  rw [getT_take hj]
  exact hc j (by omega)
def entB (t : Te) (next : Int) : Bool := inW t.id 1 (next - 1) && (nameB t.name && (inW t.lim 256 65536 && inW t.hor 0 1099511627776))
theorem nameA_eq (s : ByteArray) : (nameA s == 0) = nameB s := by
  unfold nameA
  cases nameB s <;> rfl
set_option maxHeartbeats 2000000 in
theorem isEntryOf (t : Te) (next : Int) (w : World) (hok : t.Ok) (hn : 1 ≤ next ∧ next ≤ 1073741824) : Calls Try.prog 54 #[t.agg, .int .i64 next] w fun e w' => e = .returned (.bool (entB t next)) ∧ Below w.heap.size w w' := by
  have hsz := hok.name
  obtain ⟨ti, tn, tl, th⟩ := t
  simp only at hsz
  obtain ⟨w0, hw0⟩ : ∃ w0, w.alloc (.cells #[.int .i64 ti, .string tn, .int .i64 tl, .int .i64 th] 58) = w0 := ⟨_, rfl⟩
  have HB0 : Hid (Below w.heap.size w w0) := by rw [← hw0]; exact (Below.refl _ _).alloc (Nat.le_refl _) _
  have HM : Hid (∀ u, Below w0.heap.size w0 u → u.cell? ⟨w.heap.size, 2, none⟩ = some (.int .i64 tl) ∧ u.cell? ⟨w.heap.size, 3, none⟩ = some (.int .i64 th)) := fun u hu => by
    have e2 : w0.cell? ⟨w.heap.size, 2, none⟩ = some (.int .i64 tl) := by rw [← hw0]; exact World.cell?_alloc_at _ _ _ _ rfl
    have e3 : w0.cell? ⟨w.heap.size, 3, none⟩ = some (.int .i64 th) := by rw [← hw0]; exact World.cell?_alloc_at _ _ _ _ rfl
    exact ⟨(hu.cell (p := ⟨w.heap.size, 2, none⟩) (cell_lt e2)).trans e2, (hu.cell (p := ⟨w.heap.size, 3, none⟩) (cell_lt e3)).trans e3⟩
  have m0 : w0.cell? ⟨w.heap.size, 0, none⟩ = some (.int .i64 ti) := by rw [← hw0]; exact World.cell?_alloc_at _ _ _ _ rfl
  have m1 : w0.cell? ⟨w.heap.size, 1, none⟩ = some (.string tn) := by rw [← hw0]; exact World.cell?_alloc_at _ _ _ _ rfl
  have HE : Hid (entB ⟨ti, tn, tl, th⟩ next = (inW ti 1 (next - 1) && ((nameA tn == 0) && (inW tl 256 65536 && inW th 0 1099511627776)))) := by rw [nameA_eq]; rfl
  generalize entB ⟨ti, tn, tl, th⟩ next = R at HE ⊢
  have HNM : Hid (∀ u, Calls Try.prog 15 #[.string tn] u fun e w' => e = .returned (.int .i64 (nameA tn)) ∧ Below u.heap.size u w') := fun u => nameOkOf tn u hsz
  generalize nameA tn = NA at HE HNM
  unfold Te.agg
  cases h0 : inW ti 1 (next - 1) with
  | false =>
    have HR : Hid (R = false) := by rw [Hid, HE.out, h0]; rfl
    go_enter Try.func54, Try.ntmps54
    go_wp2_with fail
    refine (wintOf ti 1 (next - 1) _).mono ?_
    rintro e w1 ⟨rfl, rfl⟩
    rw [h0]
    go_wp2
    go_ret
    exact ⟨by rw [HR.out]; rfl, HB0.out⟩
  | true =>
    by_cases h1 : NA = 0
    · subst h1
      cases h2 : inW tl 256 65536 with
      | false =>
        have HR : Hid (R = false) := by rw [Hid, HE.out, h0, h2]; rfl
        go_enter Try.func54, Try.ntmps54
        go_wp2_with fail
        refine (wintOf ti 1 (next - 1) _).mono ?_
        rintro e w1 ⟨rfl, rfl⟩
        rw [h0]
        go_wp2_with fail
        refine (HNM.out _).mono ?_
        rintro e w2 ⟨rfl, hb2⟩
        have HB2 : Hid (Below w.heap.size w w2) := below_step HB0.out hb2
        obtain ⟨n2, n3⟩ := HM.out w2 hb2
        clear hb2
        go_wp2_with fail
        refine (wintOf tl 256 65536 _).mono ?_
        rintro e w3 ⟨rfl, rfl⟩
        rw [h2]
        go_wp2
        go_ret
        exact ⟨by rw [HR.out]; rfl, HB2.out⟩
      | true =>
        have HR : Hid (R = inW th 0 1099511627776) := by rw [Hid, HE.out, h0, h2]; rfl
        go_enter Try.func54, Try.ntmps54
        go_wp2_with fail
        refine (wintOf ti 1 (next - 1) _).mono ?_
        rintro e w1 ⟨rfl, rfl⟩
        rw [h0]
        go_wp2_with fail
        refine (HNM.out _).mono ?_
        rintro e w2 ⟨rfl, hb2⟩
        have HB2 : Hid (Below w.heap.size w w2) := below_step HB0.out hb2
        obtain ⟨n2, n3⟩ := HM.out w2 hb2
        clear hb2
        go_wp2_with fail
        refine (wintOf tl 256 65536 _).mono ?_
        rintro e w3 ⟨rfl, rfl⟩
        rw [h2]
        go_wp2_with fail
        refine (wint64Of th 0 1099511627776 _).mono ?_
        rintro e w3 ⟨rfl, rfl⟩
        generalize inW th 0 1099511627776 = H at HR
        go_wp2
        go_ret
        exact ⟨by rw [HR.out]; rfl, HB2.out⟩
    · have h1' : (NA == 0) = false := by simpa using h1
      have HR : Hid (R = false) := by rw [Hid, HE.out, h0, h1']; rfl
      go_enter Try.func54, Try.ntmps54
      go_wp2_with fail
      refine (wintOf ti 1 (next - 1) _).mono ?_
      rintro e w1 ⟨rfl, rfl⟩
      rw [h0]
      go_wp2_with fail
      refine (HNM.out _).mono ?_
      rintro e w2 ⟨rfl, hb2⟩
      have HB2 : Hid (Below w.heap.size w w2) := below_step HB0.out hb2
      clear hb2
      go_wp2
      go_ret
      exact ⟨by rw [HR.out]; rfl, HB2.out⟩
set_option maxHeartbeats 2000000 in
theorem areTopics1Of (x : Te) (bt : Nat) (z : Int) (w : World) (hc : w.cell? ⟨bt, 0, none⟩ = some (.int .i64 z)) : Calls Try.prog 56 #[x.agg, .pointer (some ⟨bt, 0, none⟩)] w fun e w' => e = .returned (.bool (x.id == z)) ∧ Below w.heap.size w w' := by
  obtain ⟨ti, tn, tl, th⟩ := x
  obtain ⟨w0, hw0⟩ : ∃ w0, w.alloc (.cells #[.int .i64 ti, .string tn, .int .i64 tl, .int .i64 th] 58) = w0 := ⟨_, rfl⟩
  have HB0 : Hid (Below w.heap.size w w0) := by rw [← hw0]; exact (Below.refl _ _).alloc (Nat.le_refl _) _
  have m0 : w0.cell? ⟨w.heap.size, 0, none⟩ = some (.int .i64 ti) := by rw [← hw0]; exact World.cell?_alloc_at _ _ _ _ rfl
  have mz : w0.cell? ⟨bt, 0, none⟩ = some (.int .i64 z) := (HB0.out.cell (p := ⟨bt, 0, none⟩) (cell_lt hc)).trans hc
  unfold Te.agg
  simp only
  go_enter Try.func56, Try.ntmps56
  go_wp2
  go_ret
  exact ⟨rfl, HB0.out⟩
theorem enter_at1 (a b : Value) (W : World) : (callFunc 56 #[a, b]).run Try.prog W = .ok (.enter 56 #[a, b]) W := by kernel_rfl
def hasId (l : List Te) (z : Int) : Bool := l.any fun t => t.id == z
theorem hasId_take {l : List Te} {z : Int} {k : Nat} (hk : k < l.length) : hasId (l.take (k + 1)) z = (hasId (l.take k) z || (l.getD k Te.zero).id == z) := by
  unfold hasId
  rw [List.take_succ_eq_append_getElem hk, List.any_append]
  simp [hk]
theorem hasId_mem {l : List Te} {z : Int} {k : Nat} (hk : k < l.length) (h : (l.getD k Te.zero).id = z) : hasId l z = true := by
  unfold hasId
  rw [List.any_eq_true]
  exact ⟨l.getD k Te.zero, by simp [hk], by rw [beq_iff_eq]; exact h⟩
set_option maxHeartbeats 2000000 in
theorem indexFOf (v : Value) (l : List Te) (bt : Nat) (z : Int) (w : World) (h : TesAt w v l) (hz : w.cell? ⟨bt, 0, none⟩ = some (.int .i64 z)) :
    Calls Try.prog 75 #[v, .func (.func 56) #[] #[.pointer (some ⟨bt, 0, none⟩)]] w fun e w' => ∃ q : Int, e = .returned (.int .i64 q) ∧ decide (0 ≤ q) = hasId l z ∧ Below w.heap.size w w' := by
  obtain ⟨a, cap, rfl, hcl, hok, hcells⟩ := h
  have HC : Hid (∀ u m, Below w.heap.size w u → m < l.length → ∃ b off, a = some ⟨b, off, none⟩ ∧ Te.CellsAt u b (off + m * 4) (l.getD m Te.zero)) := fun u m hu hm => by
    obtain ⟨b, off, e, hc⟩ := hcells (by intro e; rw [e] at hm; simp at hm)
    exact ⟨b, off, e, (hc m hm).block (hu.block _ (hc m hm).lt)⟩
  have HZ : Hid (∀ u, Below w.heap.size w u → u.cell? ⟨bt, 0, none⟩ = some (.int .i64 z)) := fun u hu => (hu.cell (p := ⟨bt, 0, none⟩) (cell_lt hz)).trans hz
  clear hcells hok hz
  go_enter Try.func75, Try.ntmps75
  go_wp2
  go_loopw [8] (fun i wr => ∃ k : Nat, k ≤ l.length ∧ i = .int .i64 k ∧ Hid (hasId (l.take k) z = false) ∧ Hid (Below w.heap.size w wr)) (fun i _ => l.length - (intOf i).toNat)
  case atStart => exact ⟨0, by omega, rfl, by simp [Hid, hasId], Below.refl _ _⟩
  case round =>
    obtain ⟨k, hk, rfl, HA, HBW⟩ := hrel
    by_cases hlt : k < l.length
    · obtain ⟨b, off, rfl, hc⟩ := HC.out wr k HBW.out hlt
      have HT : Hid (hasId (l.take (k + 1)) z = ((l.getD k Te.zero).id == z)) := by unfold Hid; rw [hasId_take hlt, HA.out]; simp
      have HMM : Hid ((l.getD k Te.zero).id = z → hasId l z = true) := hasId_mem hlt
      generalize l.getD k Te.zero = x at hc HT HMM
      obtain ⟨xi, xn, xl, xh⟩ := x
      obtain ⟨c0, c1, c2, c3⟩ := hc
      simp only at c0 c1 c2 c3 HT HMM
      have hki : (k : Int) < (l.length : Int) := by omega
      have HCL : Hid (Calls Try.prog 56 #[.agg #[.int .i64 xi, .string xn, .int .i64 xl, .int .i64 xh], .pointer (some ⟨bt, 0, none⟩)] wr fun e w' => e = .returned (.bool (xi == z)) ∧ Below wr.heap.size wr w') := areTopics1Of ⟨xi, xn, xl, xh⟩ bt z wr (HZ.out wr HBW.out)
      have hen := enter_at1 (.agg #[.int .i64 xi, .string xn, .int .i64 xl, .int .i64 xh]) (.pointer (some ⟨bt, 0, none⟩)) wr
      by_cases hx : xi = z
      · have HM1 : Hid (hasId l z = true) := HMM.out hx
        have hx' : (xi == z) = true := by simpa using hx
        rw [hx'] at HCL
        clear HT HMM hx hx'
        go_wp2_with fail
        refine HCL.out.mono ?_
        rintro e w1 ⟨rfl, hb1⟩
        have HB1 : Hid (Below w.heap.size w w1) := below_step HBW.out hb1
        clear hb1
        go_wp2
        go_ret
        exact ⟨k, rfl, by rw [HM1.out]; simp, HB1.out⟩
      · have hx' : (xi == z) = false := by simpa using hx
        have HT1 : Hid (hasId (l.take (k + 1)) z = false) := by rw [Hid, HT.out, hx']
        rw [hx'] at HCL
        clear HT HMM
        go_wp2_with fail
        refine HCL.out.mono ?_
        rintro e w1 ⟨rfl, hb1⟩
        have HB1 : Hid (Below w.heap.size w w1) := below_step HBW.out hb1
        clear hb1
        go_wp2
        go_roundw
        case rel => exact ⟨k + 1, by omega, by go_num, HT1.out, HB1.out⟩
        case measure => simp [intOf]; omega
    · obtain rfl : k = l.length := by omega
      have HA1 : Hid (hasId l z = false) := by have := HA.out; rwa [List.take_length] at this
      clear HA
      go_wp2
      go_ret
      exact ⟨-1, rfl, by rw [HA1.out]; rfl, HBW.out⟩
theorem containsFOf (v : Value) (l : List Te) (bt : Nat) (z : Int) (w : World) (h : TesAt w v l) (hz : w.cell? ⟨bt, 0, none⟩ = some (.int .i64 z)) :
    Calls Try.prog 55 #[v, .func (.func 56) #[] #[.pointer (some ⟨bt, 0, none⟩)]] w fun e w' => e = .returned (.bool (hasId l z)) ∧ Below w.heap.size w w' := by
  have HI : Hid (Calls Try.prog 75 #[v, .func (.func 56) #[] #[.pointer (some ⟨bt, 0, none⟩)]] w fun e w' => ∃ q : Int, e = .returned (.int .i64 q) ∧ decide (0 ≤ q) = hasId l z ∧ Below w.heap.size w w') := indexFOf v l bt z w h hz
  obtain ⟨a, cap, rfl, -⟩ := h
  go_enter Try.func55, Try.ntmps55
  go_wp2_with fail
  refine HI.out.mono ?_
  rintro e w1 ⟨q, rfl, hq, hb⟩
  have HQ : Hid (decide (0 ≤ q) = hasId l z) := hq
  have HB : Hid (Below w.heap.size w w1) := hb
  clear hq hb
  go_wp2
  go_ret
  exact ⟨by rw [← HQ.out]; rfl, HB.out⟩
end Go.Proofs.Ytpeejgnkdoeijaa
