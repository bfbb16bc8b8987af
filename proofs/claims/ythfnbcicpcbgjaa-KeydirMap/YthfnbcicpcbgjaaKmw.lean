import Derived.Test.YthfnbcicpcbgjaaKmd
import Derived.Test.YthfnbcicpcbgjaaKhd
/-! keydir: the walk of the law of maps. -/
namespace Go.Proofs.Ythfnbcicpcbgjaa
open Go.RowKit Plain
set_option linter.unusedVariables false
set_option linter.unusedSimpArgs false

theorem gotE_ke (o : Option Kr) : gotE (o.map Kr.ke) = entR o := by cases o <;> rfl
theorem isSome_ke (o : Option Kr) : (o.map Kr.ke).isSome = o.isSome := by cases o <;> rfl
theorem getLaid {D : Nat → Prop} {gd : Nat} {st : List Kr} (key : ByteArray) (w : World) (h : DirAt D w gd (laidL st)) (hk : key.size ≤ maxLen) : Calls Try.prog 14 #[.pointer (some ⟨gd, 0, none⟩), .string key] w fun e w' => e = .returned (.tuple #[(entR (lastK key st)).v, .bool (lastK key st).isSome]) ∧ Below w.heap.size w w' := by
  have h1 := getOf key w h hk
  rw [find_laid, gotE_ke, isSome_ke] at h1
  exact h1

def goneL (ss : List ByteArray) (l : List Ke) : List Ke := ss.foldl (fun l s => delL s l) l
def seen (key : ByteArray) (ss : List ByteArray) : Bool := ss.any fun s => decide (kc key s = 0)
theorem goneL_snoc (ss : List ByteArray) (s : ByteArray) (l : List Ke) : goneL (ss ++ [s]) l = delL s (goneL ss l) := by simp [goneL]
theorem seen_snoc (key : ByteArray) (ss : List ByteArray) (s : ByteArray) : seen key (ss ++ [s]) = (seen key ss || decide (kc key s = 0)) := by simp [seen]
theorem takeS {ss : List ByteArray} {m : Nat} (h : m < ss.length) : ss.take (m + 1) = ss.take m ++ [ss.getD m ⟨#[]⟩] := by
  rw [List.take_add_one, List.getD_eq_getElem?_getD, List.getElem?_eq_getElem h]
  simp
theorem find_gone (key : ByteArray) : ∀ (ss : List ByteArray) (l : List Ke), findL key (goneL ss l) = if seen key ss then none else findL key l
  | [], l => by simp [goneL, seen]
  | s :: ss, l => by
    have ih := find_gone key ss (delL s l)
    have e : goneL (s :: ss) l = goneL ss (delL s l) := rfl
    rw [e, ih, findL_del]
    have e2 : seen key (s :: ss) = (decide (kc key s = 0) || seen key ss) := by simp [seen]
    rw [e2]
    by_cases h1 : seen key ss = true
    · simp [h1]
    · by_cases h2 : kc key s = 0
      · simp [h1, h2]
      · simp [h1, h2]
theorem goneL_len : ∀ (ss : List ByteArray) (l : List Ke), (goneL ss l).length ≤ l.length
  | [], l => by simp [goneL]
  | s :: ss, l => Nat.le_trans (goneL_len ss (delL s l)) (delL_len s l)

set_option maxHeartbeats 8000000 in
set_option maxRecDepth 100000 in
theorem mapWalk (a0 : Option Addr) (cap0 : Nat) (st : List Kr) (a1 : Option Addr) (cap1 : Nat) (ss : List ByteArray) (w : World) (h : KrsAt w (.slice a0 st.length cap0) st) (hg : TxtsAt w (.slice a1 ss.length cap1) ss) :
    Calls Try.prog 4 #[.slice a0 st.length cap0, .slice a1 ss.length cap1] w fun e w' => e = .returned (.bool true) ∧ Below w.heap.size w w' := by
  have HKR : Hid (∀ u, Below w.heap.size w u → KrsAt u (.slice a0 st.length cap0) st) := fun u hu => h.later hu
  have HOK : Hid (∀ m, m < st.length → (st.getD m Kr.zero).Ok) := fun m hm => by
    obtain ⟨_, _, _, _, hok, _⟩ := h
    rw [List.getD_eq_getElem?_getD, List.getElem?_eq_getElem hm]
    exact hok _ (List.getElem_mem hm)
  have HCE : Hid (∀ u m, Below w.heap.size w u → m < st.length → ∃ b off, b < w.heap.size ∧ a0 = some ⟨b, off, none⟩ ∧ Kr.CellsAt u b (off + m * 7) (st.getD m Kr.zero)) := fun u m hu hm => by
    obtain ⟨a', c', e', _, _, hcells⟩ := h
    obtain ⟨b, off, e, hc⟩ := hcells (by intro e; rw [e] at hm; simp at hm)
    cases e'
    exact ⟨b, off, (hc m hm).lt, e, (hc m hm).block (hu.block _ (hc m hm).lt)⟩
  have hcl : st.length ≤ 2199023255500 := by obtain ⟨_, _, _, h1, _⟩ := h; exact h1
  have hgl : ss.length ≤ 8796093022208 := by obtain ⟨_, _, _, h1, _⟩ := hg; exact h1
  have HGO : Hid (∀ m, m < ss.length → (ss.getD m ⟨#[]⟩).size ≤ maxLen) := fun m hm => by
    obtain ⟨_, _, _, _, hok, _⟩ := hg
    rw [List.getD_eq_getElem?_getD, List.getElem?_eq_getElem hm]
    exact hok _ (List.getElem_mem hm)
  have HGC : Hid (∀ u m, Below w.heap.size w u → m < ss.length → ∃ b off, b < w.heap.size ∧ a1 = some ⟨b, off, none⟩ ∧ ∀ j, j < ss.length → u.cell? ⟨b, off + j, none⟩ = some (.string (ss.getD j ⟨#[]⟩))) := fun u m hu hm => by
    obtain ⟨a', c', e', _, _, hcells⟩ := hg
    obtain ⟨b, off, e, hc⟩ := hcells (by intro e; rw [e] at hm; simp at hm)
    cases e'
    exact ⟨b, off, cell_lt (hc m hm), e, fun j hj => (hu.cell (p := ⟨b, off + j, none⟩) (cell_lt (hc j hj))).trans (hc j hj)⟩
  have HLA : Hid (Calls Try.prog 18 #[.slice a0 st.length cap0] w fun e w' => e = .returned (.tuple #[.pointer (some ⟨w.heap.size, 0, none⟩), .bool true]) ∧ Below w.heap.size w w' ∧ DirAt (fun g => g = w.heap.size) w' w.heap.size (laidL st)) := laidOf _ st w h
  clear h hg
  go_enter Try.func4, Try.ntmps4
  go_wp2_with fail
  refine HLA.out.mono ?_
  rintro e w1 ⟨rfl, hb1, hd1⟩
  have hs1 : w.heap.size + 1 ≤ w1.heap.size := hd1.lt
  go_wp2
  go_loopg [7] st.length (fun gk s7 wx => ∃ (m : Nat), m + gk = st.length ∧ s7 = .int .i64 m ∧ Hid (Below w.heap.size w wx) ∧ Hid (w.heap.size + 1 ≤ wx.heap.size) ∧ Hid (DirAt (fun g => g = w.heap.size) wx w.heap.size (laidL st)))
  case atStart => exact ⟨0, by omega, rfl, hb1, hs1, hd1⟩
  case round =>
    clear HLA hb1 hs1 hd1
    obtain ⟨m, hgm, rfl, HB, HS, HD⟩ := hrel
    cases gk with
    | zero =>
      obtain rfl : m = st.length := by omega
      go_wp2
      go_loopg [12] ss.length (fun gk s12 wx => ∃ (m : Nat), m + gk = ss.length ∧ s12 = .int .i64 m ∧ Hid (Below w.heap.size w wx) ∧ Hid (w.heap.size + 1 ≤ wx.heap.size) ∧ Hid (DirAt (fun g => g = w.heap.size) wx w.heap.size (goneL (ss.take m) (laidL st))))
      case atStart => exact ⟨0, by omega, rfl, HB.out, HS.out, HD.out⟩
      case round =>
        clear HB HS HD hgm
        obtain ⟨m, hgm, rfl, HB, HS, HD⟩ := hrel
        cases gk with
        | zero =>
          obtain rfl : m = ss.length := by omega
          have HD1 : Hid (DirAt (fun g => g = w.heap.size) wr w.heap.size (goneL ss (laidL st))) := by
            have h := HD.out
            rw [List.take_length] at h
            exact h
          go_wp2
          go_loopg [20] st.length (fun gk s20 wx => ∃ (m : Nat), m + gk = st.length ∧ s20 = .int .i64 m ∧ Hid (Below w.heap.size w wx) ∧ Hid (w.heap.size + 1 ≤ wx.heap.size) ∧ Hid (DirAt (fun g => g = w.heap.size) wx w.heap.size (goneL ss (laidL st))))
          case atStart => exact ⟨0, by omega, rfl, HB.out, HS.out, HD1.out⟩
          case round =>
            clear HB HS HD HD1 hgm
            obtain ⟨m, hgm, rfl, HB, HS, HD⟩ := hrel
            cases gk with
            | zero =>
              go_wp2_with fail
              refine (headOf wr).mono ?_
              rintro e w2 ⟨rfl, hb2⟩
              have HF : Hid (Below w.heap.size w w2) := below_step' HB.out hb2
              clear hb2
              go_wp2
              go_ret
              exact ⟨rfl, HF.out⟩
            | succ gk1 =>
              obtain ⟨b, off, hbl, rfl, hc⟩ := HCE.out wr m HB.out (by omega)
              have hxo := HOK.out m (by omega)
              have HCX : Hid (∀ u, Below w.heap.size w u → Kr.CellsAt u b (off + m * 7) (st.getD m Kr.zero)) := fun u hu => by
                obtain ⟨b', off', _, e, hc'⟩ := HCE.out u m hu (by omega)
                cases e
                exact hc'
              generalize hxe : st.getD m Kr.zero = x at hc hxo HCX
              obtain ⟨g, xa, xb, xc, xd, xt, xm⟩ := x
              have hgk : g.size ≤ maxLen := hxo.key
              have hmi : (m : Int) < (st.length : Int) := by omega
              obtain ⟨c0, c1, c2, c3, c4, c5, c6⟩ := hc
              simp only at c0 c1 c2 c3 c4 c5 c6
              have HLS : Hid (Calls Try.prog 13 #[.slice (some ⟨b, off, none⟩) st.length cap0, .string g] wr fun e w' => e = .returned (.tuple #[(entR (lastK g st)).v, .bool (lastK g st).isSome]) ∧ Below wr.heap.size wr w') := lastOf _ st g wr (HKR.out wr HB.out) hgk
              have HFG : Hid (findL g (goneL ss (laidL st)) = if seen g ss then none else (lastK g st).map Kr.ke) := by unfold Hid; rw [find_gone, find_laid]
              obtain ⟨lo, hlo⟩ : ∃ lo, lastK g st = lo := ⟨_, rfl⟩
              rw [hlo] at HLS HFG
              clear hxo hxe hlo
              obtain ⟨en, hen⟩ : ∃ en, entR lo = en := ⟨_, rfl⟩
              obtain ⟨bo, hbo⟩ : ∃ bo, lo.isSome = bo := ⟨_, rfl⟩
              rw [hen, hbo] at HLS
              go_wp2_with fail
              refine HLS.out.mono ?_
              rintro e w2 ⟨rfl, hb2⟩
              obtain ⟨w3, hw3⟩ : ∃ w3, w2.alloc (.cells #[.int .i64 en.seg, .int .i64 en.pos, .int .i64 en.size, .int .i64 en.off, .int .i64 en.time, .bool en.tomb] 26) = w3 := ⟨_, rfl⟩
              have hb23 : Below w2.heap.size w2 w3 := by rw [← hw3]; exact (Below.refl _ _).alloc (Nat.le_refl _) _
              have HX3 : Hid (EnAt w3 w2.heap.size en) := by rw [← hw3]; exact EnAt.new w2 en
              have HB3 : Hid (Below wr.heap.size wr w3) := below_step' hb2 hb23
              clear hb2 hb23 c0 c1 c2 c3 c4 c5 c6 HLS
              go_wp2
              go_loopg [22, 23] ss.length (fun gk s22 s23 wx => ∃ (k : Nat), k + gk = ss.length ∧ s23 = .int .i64 k ∧ s22 = .bool (bo && !seen g (ss.take k)) ∧ Hid (Below w3.heap.size w3 wx))
              case atStart => exact ⟨0, by omega, rfl, by simp [seen], Below.refl _ _⟩
              case round =>
                obtain ⟨k, hkm, rfl, rfl, HBX⟩ := hrel
                obtain ⟨c0, c1, c2, c3, c4, c5, c6⟩ := HCX.out wr (below_step' HB.out (below_step' HB3.out HBX.out))
                simp only at c0 c1 c2 c3 c4 c5 c6
                cases gk with
                | succ gk2 =>
                  obtain ⟨bs, offs, -, rfl, hcs⟩ := HGC.out wr k (below_step' HB.out (below_step' HB3.out HBX.out)) (by omega)
                  have q1 := hcs k (by omega)
                  have HTK : Hid (ss.take (k + 1) = ss.take k ++ [ss.getD k ⟨#[]⟩]) := takeS (by omega)
                  generalize ss.getD k ⟨#[]⟩ = t at q1 HTK
                  have hkl : (k : Int) < (ss.length : Int) := by omega
                  clear hcs
                  by_cases he : t = g
                  · subst he
                    have HSN : Hid ((bo && !seen t (ss.take (k + 1))) = false) := by unfold Hid; rw [HTK.out, seen_snoc, kc_self]; simp
                    go_wp2
                    go_quiet (fail)
                    go_wp2
                    go_roundg gk2
                    case rel => exact ⟨k + 1, by omega, by go_num, by rw [HSN.out], below_drewN HBX.out _⟩
                    case measure => exact Nat.lt_succ_self _
                  · have hne := keys_ne he
                    have HSN : Hid ((bo && !seen g (ss.take (k + 1))) = (bo && !seen g (ss.take k))) := by
                      unfold Hid
                      rw [HTK.out, seen_snoc]
                      have h0 : kc g t ≠ 0 := fun h => he (kc_zero h).symm
                      simp [h0]
                    go_wp2
                    go_quiet (fail)
                    go_wp2
                    go_roundg gk2
                    case rel => exact ⟨k + 1, by omega, by go_num, by rw [HSN.out], below_drewN HBX.out _⟩
                    case measure => exact Nat.lt_succ_self _
                | zero =>
                  obtain rfl : k = ss.length := by omega
                  have hbo3 := below_step' HB3.out HBX.out
                  have HBW : Hid (Below w.heap.size w wr) := below_step' HB.out hbo3
                  have HSW : Hid (w.heap.size + 1 ≤ wr.heap.size) := Nat.le_trans HS.out hbo3.size
                  have HXW : Hid (EnAt wr w2.heap.size en) := HX3.out.block (HBX.out.block _ HX3.out.lt)
                  have HDW : Hid (DirAt (fun g => g = w.heap.size) wr w.heap.size (goneL ss (laidL st))) := HD.out.later hbo3
                  have HGT : Hid (Calls Try.prog 14 #[.pointer (some ⟨w.heap.size, 0, none⟩), .string g] wr fun e w' => e = .returned (.tuple #[(gotE (findL g (goneL ss (laidL st)))).v, .bool (findL g (goneL ss (laidL st))).isSome]) ∧ Below wr.heap.size wr w') := getOf g wr HDW.out hgk
                  obtain ⟨e2, he2⟩ : ∃ e2, gotE (findL g (goneL ss (laidL st))) = e2 := ⟨_, rfl⟩
                  obtain ⟨hd, hhd⟩ : ∃ hd, (findL g (goneL ss (laidL st))).isSome = hd := ⟨_, rfl⟩
                  have HCASE : Hid ((bo && !seen g (ss.take ss.length)) = hd ∧ (hd = true → e2 = en)) := by
                    unfold Hid
                    rw [List.take_length, ← he2, ← hhd, HFG.out, ← hbo, ← hen]
                    cases hsn : seen g ss with
                    | true => simp [gotE]
                    | false =>
                      cases lo with
                      | none => simp [gotE]
                      | some r => simp [gotE, entR]
                  rw [he2, hhd] at HGT
                  clear he2 hhd hbo3
                  go_wp2_with fail
                  refine HGT.out.mono ?_
                  rintro e w4 ⟨rfl, hb4⟩
                  obtain ⟨w5, hw5⟩ : ∃ w5, w4.alloc (.cells #[.int .i64 e2.seg, .int .i64 e2.pos, .int .i64 e2.size, .int .i64 e2.off, .int .i64 e2.time, .bool e2.tomb] 26) = w5 := ⟨_, rfl⟩
                  have hb45 : Below w4.heap.size w4 w5 := by rw [← hw5]; exact (Below.refl _ _).alloc (Nat.le_refl _) _
                  have hbw5 := below_step' hb4 hb45
                  have HF : Hid (Below w.heap.size w w5 ∧ w.heap.size + 1 ≤ w5.heap.size ∧ DirAt (fun g => g = w.heap.size) w5 w.heap.size (goneL ss (laidL st))) := ⟨below_step' HBW.out hbw5, Nat.le_trans HSW.out hbw5.size, HDW.out.later hbw5⟩
                  obtain ⟨x0, x1, x2, x3, x4, x5⟩ := HXW.out.block (hbw5.block _ HXW.out.lt)
                  obtain ⟨y0, y1, y2, y3, y4, y5⟩ : EnAt w5 w4.heap.size e2 := by rw [← hw5]; exact EnAt.new w4 e2
                  rw [HCASE.out.1]
                  clear hb4 hb45 hbw5 c0 c1 c2 c3 c4 c5 c6
                  cases hd with
                  | true =>
                    obtain rfl := HCASE.out.2 rfl
                    go_wp2
                    go_roundg gk1
                    case rel => exact ⟨m + 1, by omega, by go_num, HF.out.1, HF.out.2.1, HF.out.2.2⟩
                    case measure => exact Nat.lt_succ_self _
                  | false =>
                    go_wp2
                    go_roundg gk1
                    case rel => exact ⟨m + 1, by omega, by go_num, HF.out.1, HF.out.2.1, HF.out.2.2⟩
                    case measure => exact Nat.lt_succ_self _
        | succ gk1 =>
          obtain ⟨b, off, hbl, rfl, hc⟩ := HGC.out wr m HB.out (by omega)
          have HCX : Hid (∀ u, Below w.heap.size w u → ∀ j, j < ss.length → u.cell? ⟨b, off + j, none⟩ = some (.string (ss.getD j ⟨#[]⟩))) := fun u hu => by
            obtain ⟨b', off', _, e, hc'⟩ := HGC.out u m hu (by omega)
            cases e
            exact hc'
          have hgk := HGO.out m (by omega)
          have hmi : (m : Int) < (ss.length : Int) := by omega
          have HTS : Hid (ss.take (m + 1) = ss.take m ++ [ss.getD m ⟨#[]⟩]) := takeS (by omega)
          generalize hge : ss.getD m ⟨#[]⟩ = g at hgk HTS
          have HGE : Hid (ss.getD m ⟨#[]⟩ = g) := hge
          have c0 := hc m (by omega)
          rw [hge] at c0
          have HLS : Hid (Calls Try.prog 13 #[.slice a0 st.length cap0, .string g] wr fun e w' => e = .returned (.tuple #[(entR (lastK g st)).v, .bool (lastK g st).isSome]) ∧ Below wr.heap.size wr w') := lastOf _ st g wr (HKR.out wr HB.out) hgk
          have HFG : Hid (findL g (goneL (ss.take m) (laidL st)) = if seen g (ss.take m) then none else (lastK g st).map Kr.ke) := by unfold Hid; rw [find_gone, find_laid]
          have HLN : Hid ((goneL (ss.take m) (laidL st)).length ≤ 1125899906842600) := by
            have h1 := goneL_len (ss.take m) (laidL st)
            have h2 := laidL_len st
            unfold Hid
            omega
          have HGN : Hid (goneL (ss.take (m + 1)) (laidL st) = delL g (goneL (ss.take m) (laidL st))) := by unfold Hid; rw [HTS.out, goneL_snoc]
          obtain ⟨lo, hlo⟩ : ∃ lo, lastK g st = lo := ⟨_, rfl⟩
          rw [hlo] at HLS HFG
          clear hc hge hlo
          obtain ⟨en, hen⟩ : ∃ en, entR lo = en := ⟨_, rfl⟩
          obtain ⟨bo, hbo⟩ : ∃ bo, lo.isSome = bo := ⟨_, rfl⟩
          rw [hen, hbo] at HLS
          go_wp2_with fail
          refine HLS.out.mono ?_
          rintro e w2 ⟨rfl, hb2⟩
          obtain ⟨w3, hw3⟩ : ∃ w3, w2.alloc (.cells #[.int .i64 en.seg, .int .i64 en.pos, .int .i64 en.size, .int .i64 en.off, .int .i64 en.time, .bool en.tomb] 26) = w3 := ⟨_, rfl⟩
          have hb23 : Below w2.heap.size w2 w3 := by rw [← hw3]; exact (Below.refl _ _).alloc (Nat.le_refl _) _
          have HX3 : Hid (EnAt w3 w2.heap.size en) := by rw [← hw3]; exact EnAt.new w2 en
          have HB3 : Hid (Below wr.heap.size wr w3) := below_step' hb2 hb23
          have hs23 : wr.heap.size ≤ w2.heap.size := hb2.size
          clear hb2 hb23 c0 HLS
          go_wp2
          go_loopg [14, 15] m (fun gk s14 s15 wx => ∃ (k : Nat), k + gk = m ∧ s15 = .int .i64 k ∧ s14 = .bool (bo && !seen g (ss.take k)) ∧ Hid (Below w3.heap.size w3 wx))
          case atStart => exact ⟨0, by omega, rfl, by simp [seen], Below.refl _ _⟩
          case round =>
            obtain ⟨k, hkm, rfl, rfl, HBX⟩ := hrel
            cases gk with
            | succ gk2 =>
              have q1 := HCX.out wr (below_step' HB.out (below_step' HB3.out HBX.out)) k (by omega)
              have q2 := HCX.out wr (below_step' HB.out (below_step' HB3.out HBX.out)) m (by omega)
              rw [HGE.out] at q2
              have HTK : Hid (ss.take (k + 1) = ss.take k ++ [ss.getD k ⟨#[]⟩]) := takeS (by omega)
              generalize ss.getD k ⟨#[]⟩ = t at q1 HTK
              have hki : (k : Int) < (m : Int) := by omega
              have hkl : (k : Int) < (ss.length : Int) := by omega
              by_cases he : t = g
              · subst he
                have HSN : Hid ((bo && !seen t (ss.take (k + 1))) = false) := by unfold Hid; rw [HTK.out, seen_snoc, kc_self]; simp
                go_wp2
                go_quiet (fail)
                go_wp2
                go_roundg gk2
                case rel => exact ⟨k + 1, by omega, by go_num, by rw [HSN.out], below_drewN HBX.out _⟩
                case measure => exact Nat.lt_succ_self _
              · have hne := keys_ne he
                have HSN : Hid ((bo && !seen g (ss.take (k + 1))) = (bo && !seen g (ss.take k))) := by
                  unfold Hid
                  rw [HTK.out, seen_snoc]
                  have h0 : kc g t ≠ 0 := fun h => he (kc_zero h).symm
                  simp [h0]
                go_wp2
                go_quiet (fail)
                go_wp2
                go_roundg gk2
                case rel => exact ⟨k + 1, by omega, by go_num, by rw [HSN.out], below_drewN HBX.out _⟩
                case measure => exact Nat.lt_succ_self _
            | zero =>
              obtain rfl : k = m := by omega
              have hbo3 := below_step' HB3.out HBX.out
              have HBW : Hid (Below w.heap.size w wr) := below_step' HB.out hbo3
              have HSW : Hid (w.heap.size + 1 ≤ wr.heap.size) := Nat.le_trans HS.out hbo3.size
              have HXW : Hid (EnAt wr w2.heap.size en) := HX3.out.block (HBX.out.block _ HX3.out.lt)
              have q2 := HCX.out wr HBW.out k (by omega)
              rw [HGE.out] at q2
              have HRM : Hid (Calls Try.prog 19 #[.pointer (some ⟨w.heap.size, 0, none⟩), .string g] wr fun e w' => e = .returned (.tuple #[(gotE (findL g (goneL (ss.take k) (laidL st)))).v, .bool (findL g (goneL (ss.take k) (laidL st))).isSome]) ∧ wr.grownBy w' (some w.heap.size) ∧ DirAt (fun g => g = w.heap.size) w' w.heap.size (delL g (goneL (ss.take k) (laidL st)))) := removeOf g wr (fun j hj => by have := HSW.out; omega) (HD.out.later hbo3) hgk HLN.out
              obtain ⟨e2, he2⟩ : ∃ e2, gotE (findL g (goneL (ss.take k) (laidL st))) = e2 := ⟨_, rfl⟩
              obtain ⟨hd, hhd⟩ : ∃ hd, (findL g (goneL (ss.take k) (laidL st))).isSome = hd := ⟨_, rfl⟩
              have HCASE : Hid ((bo && !seen g (ss.take k)) = hd ∧ (hd = true → e2 = en) ∧ (hd = false → e2 = En.zero)) := by
                unfold Hid
                rw [← he2, ← hhd, HFG.out, ← hbo, ← hen]
                cases hsn : seen g (ss.take k) with
                | true => simp [gotE]
                | false =>
                  cases lo with
                  | none => simp [gotE]
                  | some r => simp [gotE, entR]
              rw [he2, hhd] at HRM
              clear he2 hhd hbo3
              go_wp2_with fail
              refine HRM.out.mono ?_
              rintro e w4 ⟨rfl, hg4, hd4⟩
              have hs4 := hg4.size
              obtain ⟨w5, hw5⟩ : ∃ w5, w4.alloc (.cells #[.int .i64 e2.seg, .int .i64 e2.pos, .int .i64 e2.size, .int .i64 e2.off, .int .i64 e2.time, .bool e2.tomb] 26) = w5 := ⟨_, rfl⟩
              have hb45 : Below w4.heap.size w4 w5 := by rw [← hw5]; exact (Below.refl _ _).alloc (Nat.le_refl _) _
              have hbw4 : Below w.heap.size w w4 := HBW.out.trans (grow_below hg4 HBW.out.size (fun j e => by cases e; exact Nat.le_refl _))
              have HB5 : Hid (Below w.heap.size w w5) := below_step' hbw4 hb45
              have HS5 : Hid (w.heap.size + 1 ≤ w5.heap.size) := by have := HSW.out; have := hb45.size; unfold Hid; omega
              have HX4 : EnAt w4 w2.heap.size en := HXW.out.block (hg4.block _ HXW.out.lt (fun e => by have := HS.out; simp at e; omega))
              have HX5 : Hid (EnAt w5 w2.heap.size en ∧ EnAt w5 w4.heap.size e2) := ⟨HX4.block (hb45.block _ HX4.lt), by rw [← hw5]; exact EnAt.new w4 e2⟩
              have HD5 : Hid (DirAt (fun g => g = w.heap.size) w5 w.heap.size (delL g (goneL (ss.take k) (laidL st)))) := hd4.later hb45
              have q3 := HCX.out w5 HB5.out k (by omega)
              rw [HGE.out] at q3
              have HGT : Hid (Calls Try.prog 14 #[.pointer (some ⟨w.heap.size, 0, none⟩), .string g] w5 fun e w' => e = .returned (.tuple #[En.zero.v, .bool false]) ∧ Below w5.heap.size w5 w') := by
                have h := getOf g w5 HD5.out hgk
                rw [findL_del, if_pos (kc_self _)] at h
                exact h
              obtain ⟨z, hz⟩ : ∃ z, En.zero = z := ⟨_, rfl⟩
              rw [hz] at HGT
              clear q2 hg4 hd4 hb45 hbw4 HX4 hs4 hz
              go_wp2_with fail
              refine HGT.out.mono ?_
              rintro e w6 ⟨rfl, hb6⟩
              obtain ⟨w7, hw7⟩ : ∃ w7, w6.alloc (.cells #[.int .i64 z.seg, .int .i64 z.pos, .int .i64 z.size, .int .i64 z.off, .int .i64 z.time, .bool z.tomb] 26) = w7 := ⟨_, rfl⟩
              have hb67 : Below w6.heap.size w6 w7 := by rw [← hw7]; exact (Below.refl _ _).alloc (Nat.le_refl _) _
              have hb57 : Below w5.heap.size w5 w7 := below_step' hb6 hb67
              have HF : Hid (Below w.heap.size w w7 ∧ w.heap.size + 1 ≤ w7.heap.size ∧ DirAt (fun g => g = w.heap.size) w7 w.heap.size (goneL (ss.take (k + 1)) (laidL st))) := ⟨below_step' HB5.out hb57, Nat.le_trans HS5.out hb57.size, by rw [HGN.out]; exact HD5.out.later hb57⟩
              obtain ⟨x0, x1, x2, x3, x4, x5⟩ := HX5.out.1.block (hb57.block _ HX5.out.1.lt)
              obtain ⟨y0, y1, y2, y3, y4, y5⟩ := HX5.out.2.block (hb57.block _ HX5.out.2.lt)
              rw [HCASE.out.1]
              clear hb6 hb67 hb57 q3
              cases hd with
              | true =>
                obtain rfl := HCASE.out.2.1 rfl
                go_wp2
                go_roundg gk1
                case rel => exact ⟨k + 1, by omega, by go_num, HF.out.1, HF.out.2.1, HF.out.2.2⟩
                case measure => exact Nat.lt_succ_self _
              | false =>
                obtain rfl := HCASE.out.2.2 rfl
                simp only [En.zero] at y0 y1 y2 y3 y4 y5
                go_wp2
                go_roundg gk1
                case rel => exact ⟨k + 1, by omega, by go_num, HF.out.1, HF.out.2.1, HF.out.2.2⟩
                case measure => exact Nat.lt_succ_self _
    | succ gk1 =>
      obtain ⟨b, off, hbl, rfl, hc⟩ := HCE.out wr m HB.out (by omega)
      have hxo := HOK.out m (by omega)
      have HCX : Hid (∀ u, Below w.heap.size w u → Kr.CellsAt u b (off + m * 7) (st.getD m Kr.zero)) := fun u hu => by
        obtain ⟨b', off', _, e, hc'⟩ := HCE.out u m hu (by omega)
        cases e
        exact hc'
      generalize hxe : st.getD m Kr.zero = x at hc hxo HCX
      obtain ⟨xk, xa, xb, xc, xd, xt, xm⟩ := x
      have hxk : xk.size ≤ maxLen := hxo.key
      have hmi : (m : Int) < (st.length : Int) := by omega
      obtain ⟨c0, c1, c2, c3, c4, c5, c6⟩ := hc
      simp only at c0 c1 c2 c3 c4 c5 c6
      have HGT : Hid (∀ u, Below wr.heap.size wr u → Calls Try.prog 14 #[.pointer (some ⟨w.heap.size, 0, none⟩), .string xk] u fun e w' => e = .returned (.tuple #[(entR (lastK xk st)).v, .bool (lastK xk st).isSome]) ∧ Below u.heap.size u w') := fun u hu => getLaid xk u (HD.out.later hu) hxk
      have HLS : Hid (∀ u, Below w.heap.size w u → Calls Try.prog 13 #[.slice (some ⟨b, off, none⟩) st.length cap0, .string xk] u fun e w' => e = .returned (.tuple #[(entR (lastK xk st)).v, .bool (lastK xk st).isSome]) ∧ Below u.heap.size u w') := fun u hu => lastOf _ st xk u (HKR.out u hu) hxk
      generalize entR (lastK xk st) = en at HGT HLS
      generalize (lastK xk st).isSome = bo at HGT HLS
      clear hxo hxe
      go_wp2_with fail
      refine (HGT.out wr (Below.refl _ _)).mono ?_
      rintro e w2 ⟨rfl, hb2⟩
      obtain ⟨w3, hw3⟩ : ∃ w3, w2.alloc (.cells #[.int .i64 en.seg, .int .i64 en.pos, .int .i64 en.size, .int .i64 en.off, .int .i64 en.time, .bool en.tomb] 26) = w3 := ⟨_, rfl⟩
      have hb23 : Below w2.heap.size w2 w3 := by rw [← hw3]; exact (Below.refl _ _).alloc (Nat.le_refl _) _
      have HX3 : Hid (EnAt w3 w2.heap.size en) := by rw [← hw3]; exact EnAt.new w2 en
      have HB3 : Hid (Below wr.heap.size wr w3) := below_step' hb2 hb23
      clear hb2 hb23 c0 c1 c2 c3 c4 c5 c6 HGT
      obtain ⟨c0, c1, c2, c3, c4, c5, c6⟩ := HCX.out w3 (below_step' HB.out HB3.out)
      simp only at c0 c1 c2 c3 c4 c5 c6
      go_wp2_with fail
      refine (HLS.out w3 (below_step' HB.out HB3.out)).mono ?_
      rintro e w4 ⟨rfl, hb4⟩
      obtain ⟨w5, hw5⟩ : ∃ w5, w4.alloc (.cells #[.int .i64 en.seg, .int .i64 en.pos, .int .i64 en.size, .int .i64 en.off, .int .i64 en.time, .bool en.tomb] 26) = w5 := ⟨_, rfl⟩
      have hb45 : Below w4.heap.size w4 w5 := by rw [← hw5]; exact (Below.refl _ _).alloc (Nat.le_refl _) _
      have hb35 : Below w3.heap.size w3 w5 := below_step' hb4 hb45
      have HB5 : Hid (Below wr.heap.size wr w5) := below_step' HB3.out hb35
      obtain ⟨y0, y1, y2, y3, y4, y5⟩ : EnAt w5 w4.heap.size en := by rw [← hw5]; exact EnAt.new w4 en
      obtain ⟨x0, x1, x2, x3, x4, x5⟩ := HX3.out.block (hb35.block _ HX3.out.lt)
      have HF : Hid (Below w.heap.size w w5 ∧ w.heap.size + 1 ≤ w5.heap.size ∧ DirAt (fun g => g = w.heap.size) w5 w.heap.size (laidL st)) := ⟨below_step' HB.out HB5.out, Nat.le_trans HS.out HB5.out.size, HD.out.later HB5.out⟩
      clear hb4 hb45 hb35 c0 c1 c2 c3 c4 c5 c6 HLS
      go_wp2
      go_roundg gk1
      case rel => exact ⟨m + 1, by omega, by go_num, HF.out.1, HF.out.2.1, HF.out.2.2⟩
      case measure => exact Nat.lt_succ_self _
end Go.Proofs.Ythfnbcicpcbgjaa
