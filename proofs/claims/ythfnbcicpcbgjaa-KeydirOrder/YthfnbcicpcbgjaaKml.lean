import Derived.Test.YthfnbcicpcbgjaaKmo
/-! keydir: the law's good and last. -/
namespace Go.Proofs.Ythfnbcicpcbgjaa
open Go.RowKit Plain
set_option linter.unusedVariables false
set_option linter.unusedSimpArgs false

theorem keys_ne {a b : ByteArray} (h : ¬ a = b) : (a.toList == b.toList) = false := by
  rw [beq_eq_false_iff_ne, ByteArray.toList_eq, ByteArray.toList_eq]
  exact fun e => h (WideShapes.bytes_inj e)
theorem goodOf (key : ByteArray) (w : World) (hk : key.size ≤ maxLen) : Calls Try.prog 11 #[.string key] w fun e w' => e = .returned (.bool (okKey key)) ∧ w' = w := by
  unfold maxLen at hk
  by_cases h1 : (1 : Int) ≤ (key.size : Int)
  · by_cases h2 : (key.size : Int) ≤ 64
    · have e : okKey key = true := okKey_yes (by omega) (by omega)
      rw [e]
      clear e
      go_enter Try.func11, Try.ntmps11
      go_wp2
      go_ret
      exact ⟨by simp, rfl⟩
    · have e : okKey key = false := by simp [okKey]; omega
      rw [e]
      clear e
      go_enter Try.func11, Try.ntmps11
      go_wp2
      go_ret
      exact ⟨by simp, rfl⟩
  · have e : okKey key = false := by simp [okKey]; omega
    rw [e]
    clear e
    have h0 : (key.size : Int) < 1 := by omega
    go_enter Try.func11, Try.ntmps11
    go_wp2
    go_ret
    exact ⟨rfl, rfl⟩

def Kr.ke (r : Kr) : Ke := ⟨r.key, ⟨r.seg, r.pos, r.size, r.off, r.time, r.tomb⟩⟩
/-- The last item with that key. -/
def lastM (key : ByteArray) (st : List Kr) : Option Kr := st.reverse.find? fun x => decide (kc key x.key = 0)
def lastK (key : ByteArray) (st : List Kr) : Option Kr := if okKey key then lastM key st else none
def entR (o : Option Kr) : En := match o with | some r => r.ke.e | none => En.zero
theorem lastM_snoc (key : ByteArray) (st : List Kr) (x : Kr) : lastM key (st ++ [x]) = if kc key x.key = 0 then some x else lastM key st := by
  unfold lastM
  rw [List.reverse_append, List.reverse_singleton, List.singleton_append, List.find?_cons]
  by_cases h : kc key x.key = 0
  · simp [h]
  · simp [h]
theorem take_succ_getD {st : List Kr} {m : Nat} (h : m < st.length) : st.take (m + 1) = st.take m ++ [st.getD m Kr.zero] := by
  rw [List.take_add_one, List.getD_eq_getElem?_getD, List.getElem?_eq_getElem h]
  simp

theorem below_step' {w u w' : World} (h : Below w.heap.size w u) (k : Below u.heap.size u w') : Below w.heap.size w w' := h.trans (k.mono h.size)
theorem hresLast : Try.f13.results = #[.cell 4 26, .tmp 5] := by kernel_rfl
set_option maxHeartbeats 4000000 in
theorem lastOf (v : Value) (st : List Kr) (key : ByteArray) (w : World) (h : KrsAt w v st) (hk : key.size ≤ maxLen) : Calls Try.prog 13 #[v, .string key] w fun e w' => e = .returned (.tuple #[(entR (lastK key st)).v, .bool (lastK key st).isSome]) ∧ Below w.heap.size w w' := by
  obtain ⟨w0, hw0⟩ : ∃ w0, w.alloc (.cells #[.int .i64 0, .int .i64 0, .int .i64 0, .int .i64 0, .int .i64 0, .bool false] 26) = w0 := ⟨_, rfl⟩
  have hb0 : Below w.heap.size w w0 := by rw [← hw0]; exact (Below.refl _ _).alloc (Nat.le_refl _) _
  have HGD : Hid (∀ u, Calls Try.prog 11 #[.string key] u fun e w' => e = .returned (.bool (okKey key)) ∧ w' = u) := fun u => goodOf key u hk
  have HR0 : EnAt w0 w.heap.size En.zero := by rw [← hw0]; exact EnAt.new w En.zero
  have hfr : ∀ j, w0.frozen? ⟨w.heap.size, j, none⟩ = false := fun j => by rw [← hw0]; exact World.frozen?_alloc_at _ _ _ _ rfl
  have HRS : Hid (∀ u, Below w0.heap.size w0 u → EnAt u w.heap.size En.zero ∧ ∀ j, u.frozen? ⟨w.heap.size, j, none⟩ = false) := fun u hu => ⟨HR0.block (hu.block _ HR0.lt), fun j => (hu.frozen (p := ⟨w.heap.size, j, none⟩) HR0.lt).trans (hfr j)⟩
  have HKR : Hid (KrsAt w0 v st) := h.later hb0
  obtain ⟨a, cap, rfl, hcl, hok, hcells⟩ := h.later hb0
  have HCE : Hid (∀ u m, Below w0.heap.size w0 u → m < st.length → ∃ b off, a = some ⟨b, off, none⟩ ∧ Kr.CellsAt u b (off + m * 7) (st.getD m Kr.zero)) := fun u m hu hm => by
    obtain ⟨b, off, e, hc⟩ := hcells (by intro e; rw [e] at hm; simp at hm)
    exact ⟨b, off, e, (hc m hm).block (hu.block _ (hc m hm).lt)⟩
  have HB0 : Hid (Below w.heap.size w w0) := hb0
  clear hcells hfr HR0 hb0 h HKR hok
  go_enter Try.func13, Try.ntmps13
  go_wp2
  go_loopg [6] st.length (fun gk s6 wx => ∃ (m : Nat), gk = m ∧ m ≤ st.length ∧ s6 = .int .i64 ((m : Int) - 1) ∧ Hid (Below w0.heap.size w0 wx) ∧ Hid (okKey key = true → lastK key st = lastM key (st.take m)))
  case atStart => exact ⟨st.length, rfl, Nat.le_refl _, by first | rfl | go_num, Below.refl _ _, fun h => by unfold lastK; rw [h, List.take_length]; rfl⟩
  case round =>
    obtain ⟨m, hgm, hm, rfl, HB, HL⟩ := hrel
    subst hgm
    obtain ⟨⟨r0, r1, r2, r3, r4, r5⟩, hfr⟩ := HRS.out wr HB.out
    have f0 := hfr 0
    have f1 := hfr 1
    have f2 := hfr 2
    have f3 := hfr 3
    have f4 := hfr 4
    have f5 := hfr 5
    simp only [En.zero] at r0 r1 r2 r3 r4 r5
    clear hfr
    have HBW : Hid (∀ en : En, Below w.heap.size w (putEn wr w.heap.size en)) := fun en => putEn_below en (below_step' HB0.out HB.out) (Nat.le_refl _)
    cases gk with
    | zero =>
      have HN : Hid (lastK key st = none) := by
        unfold Hid
        by_cases h : okKey key = true
        · rw [HL.out h]; rfl
        · unfold lastK; rw [if_neg h]
      go_wp2
      refine bodyPost_ret (v := .tuple #[En.zero.v, .bool false]) ?_ rfl ⟨by rw [HN.out]; rfl, HBW.out En.zero⟩
      simp only [results, hresLast, En.zero]
      go_simp
    | succ k =>
      have hge : (0 : Int) ≤ (k : Int) + 1 - 1 := by omega
      by_cases hgd : okKey key = true
      · obtain ⟨b, off, rfl, hc⟩ := HCE.out wr k HB.out (by omega)
        have HT : Hid (st.take (k + 1) = st.take k ++ [st.getD k Kr.zero]) := take_succ_getD (by omega)
        generalize hxe : st.getD k Kr.zero = x at hc HT
        obtain ⟨xk, xa, xb, xc, xd, xt, xm⟩ := x
        obtain ⟨c0, c1, c2, c3, c4, c5, c6⟩ := hc
        simp only at c0 c1 c2 c3 c4 c5 c6
        have HGW := HGD.out wr
        rw [hgd] at HGW
        have hki : (k : Int) < (st.length : Int) := by omega
        have hke : (k : Int) + 1 - 1 = k := by omega
        by_cases he : xk = key
        · subst he
          have HN : Hid (lastK xk st = some ⟨xk, xa, xb, xc, xd, xt, xm⟩) := by
            unfold Hid
            rw [HL.out hgd, HT.out, lastM_snoc, if_pos (kc_self _)]
          go_wp2_with fail
          refine HGW.mono ?_
          rintro e wk ⟨rfl, hwk⟩
          obtain rfl := hwk.symm
          go_wp2
          refine bodyPost_ret (v := .tuple #[En.v ⟨xa, xb, xc, xd, xt, xm⟩, .bool true]) ?_ rfl ⟨by rw [HN.out]; rfl, HBW.out ⟨xa, xb, xc, xd, xt, xm⟩⟩
          simp only [results, hresLast]
          go_simp
        · have hne := keys_ne he
          have HN : Hid (okKey key = true → lastK key st = lastM key (st.take k)) := fun h => by
            rw [HL.out h, HT.out, lastM_snoc, if_neg (fun h0 => he (kc_zero h0).symm)]
          go_wp2_with fail
          refine HGW.mono ?_
          rintro e wk ⟨rfl, hwk⟩
          obtain rfl := hwk.symm
          go_wp2
          go_roundg k
          case rel => exact ⟨k, rfl, by omega, by go_num, HB.out, HN.out⟩
          case measure => exact Nat.lt_succ_self _
      · have hgf : okKey key = false := by simpa using hgd
        have HGW := HGD.out wr
        rw [hgf] at HGW
        have HN : Hid (lastK key st = none) := by unfold Hid lastK; rw [if_neg hgd]
        go_wp2_with fail
        refine HGW.mono ?_
        rintro e wk ⟨rfl, hwk⟩
        obtain rfl := hwk.symm
        go_wp2
        refine bodyPost_ret (v := .tuple #[En.zero.v, .bool false]) ?_ rfl ⟨by rw [HN.out]; rfl, HBW.out En.zero⟩
        simp only [results, hresLast, En.zero]
        go_simp
end Go.Proofs.Ythfnbcicpcbgjaa
