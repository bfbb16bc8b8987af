import Derived.Test.YtklfmgkfcacfkaaXp
namespace Go.Proofs.Ytklfmgkfcacfkaa
open Go.RowKit Plain
set_option linter.unusedVariables false
set_option linter.unusedSimpArgs false

set_option maxHeartbeats 400000 in
set_option maxRecDepth 1000000 in
theorem expandBad (sv : Value) (ts : List Tg) (w : World) (h : TRd w sv ts) (hbad : (tlen ts 0).2 ≠ 0) :
    Calls Try.prog 14 #[sv] w fun e w' => e = .returned (.tuple #[.slice none 0 0, .int .i64 ((tlen ts 0).2 : Nat)]) ∧ Below w.heap.size w w' := by
  obtain ⟨x, hx⟩ : ∃ x, tlen ts 0 = x := ⟨_, rfl⟩
  have HT : Hid (Calls Try.prog 37 #[sv] w fun e w' => e = .returned (.tuple #[.int .i64 (x.1 : Nat), .int .i64 (x.2 : Nat)]) ∧ Below w.heap.size w w') := by
    have := textLengthOf sv ts w h
    rwa [hx] at this
  rw [hx] at hbad ⊢
  clear hx h
  obtain ⟨x1, x2⟩ := x
  have h0 : x2 ≠ 0 := hbad
  have hne : ((x2 : Int) != 0) = true := by simp; omega
  have hne2 : ((x2 : Int) == 0) = false := by simp; omega
  clear hbad
  go_enter Try.func14, Try.ntmps14
  go_wp2_with fail
  refine HT.out.mono ?_
  rintro e w1 ⟨rfl, hb⟩
  have HB : Hid (Below w.heap.size w w1) := hb
  clear hb
  go_wp2
  go_ret2
  exact ⟨rfl, HB.out⟩

set_option maxHeartbeats 2000000 in
set_option maxRecDepth 1000000 in
theorem expandOf (sv : Value) (ts : List Tg) (w : World) (h : TRd w sv ts) (hgood : (tlen ts 0).2 = 0) (hn4 : (tlen ts 0).1 ≤ 4096) :
    Calls Try.prog 14 #[sv] w fun e w' => ∃ g cap, e = .returned (.tuple #[.slice (some ⟨g, 0, none⟩) (expd ts).length cap, .int .i64 0]) ∧ Own w' (.slice (some ⟨g, 0, none⟩) (expd ts).length cap) (expd ts) (some g) ∧ w.heap.size ≤ g ∧ Below w.heap.size w w' ∧ (expd ts).length = (tlen ts 0).1 := by
  obtain ⟨n, hn⟩ : ∃ n, (tlen ts 0).1 = n := ⟨_, rfl⟩
  have hx : tlen ts 0 = (n, 0) := Prod.ext hn hgood
  have HX : Hid (tlen ts 0 = (n, 0)) := hx
  have HTL : Hid (Calls Try.prog 37 #[sv] w fun e w' => e = .returned (.tuple #[.int .i64 (n : Nat), .int .i64 0]) ∧ Below w.heap.size w w') := by
    have := textLengthOf sv ts w h
    rw [hx] at this
    exact this
  rw [hn] at hn4
  have HT : Hid (TRd w sv ts) := h
  obtain ⟨a, cap, rfl, hlc, hcm, hok, hcells⟩ := h
  unfold maxLen at hcm
  have HCS : Hid (ts ≠ [] → ∃ b off, a = some ⟨b, off, none⟩ ∧ ∀ k (hk : k < ts.length), w.cell? ⟨b, off + k * 3, none⟩ = some ts[k].v ∧ w.cell? ⟨b, off + k * 3 + 1, none⟩ = some (.int .i64 ts[k].d) ∧ w.cell? ⟨b, off + k * 3 + 2, none⟩ = some (.int .i64 ts[k].n)) := hcells
  have HOK : Hid (∀ t ∈ ts, t.ok w) := hok
  clear hok hcells hn hgood hx
  obtain ⟨i, hi, hz0, hz1, hz2⟩ := info_parts Try.info5
  have HI5 : Hid (Try.prog.info? 5 = some i ∧ i.zero = some (.int .u8 0) ∧ i.size = 1 ∧ i.bytes = 1) := ⟨hi, hz0, hz1, hz2⟩
  clear hi hz0 hz1 hz2
  go_enter Try.func14, Try.ntmps14
  go_wp2_with fail
  refine HTL.out.mono ?_
  rintro e w1 ⟨rfl, hb⟩
  have HB1 : Hid (Below w.heap.size w w1) := hb
  clear hb
  go_wp2_with (at_make; refine wpList_make_full _ rfl _ _ 22 rfl w1.heap.size 5 i _ 1 Try.underlying22 HI5.out.1 HI5.out.2.1 HI5.out.2.2.1 .i64 .i64 _ _ n rfl rfl rfl rfl (by rw [HI5.out.2.2.2]; omega) (by unfold maxLen; omega) (by simp) ?_)
  intro w2 ho2 hg2
  obtain ⟨g, hgd⟩ : ∃ g, w1.heap.size = g := ⟨_, rfl⟩
  have HI2 : Hid (Own w2 (.slice (some ⟨g, 0, none⟩) n n) (List.replicate n 0) (some g) ∧ Below w.heap.size w w2) := by
    refine ⟨?_, HB1.out.trans (grow_below hg2 HB1.out.size (by simp))⟩
    rw [← hgd]
    exact (own_made (base := w1.heap.size) (fun j hj => by
      have e : (madeCells (Value.int .u8 0).cells (n * 1)).toList = List.replicate n (.int .u8 0) := by rw [Nat.mul_one]; exact toList_madeCells_one _ _
      first
        | (rw [e]; simp [hj])
        | (rw [toList_madeCells_one]; simp [hj])) ho2).1
  have hgw : w.heap.size ≤ g := by rw [← hgd]; exact HB1.out.size
  rw [hgd]
  clear ho2 hg2 hgd
  go_wp2
  go_loopg [7, 23] ts.length (fun gk s7 s23 wx => ∃ k p : Nat, ∃ cur, k + gk = ts.length ∧ p ≤ n ∧ s7 = .int .i64 p ∧ s23 = .int .i64 k ∧ Hid (Own wx (.slice (some ⟨g, 0, none⟩) n n) cur (some g) ∧ cur.length = n ∧ cur.take p = expd (ts.take k) ∧ tlen (ts.drop k) p = (n, 0) ∧ Below w.heap.size w wx))
  case atStart => exact ⟨0, 0, List.replicate n 0, by omega, by omega, rfl, rfl, HI2.out.1, by simp, by simp [expd], HX.out, HI2.out.2⟩
  case round =>
    obtain ⟨k, p, cur, hkg, hpn, rfl, rfl, HI⟩ := hrel
    clear HI2
    cases gk with
    | zero =>
      obtain rfl : k = ts.length := by omega
      have HE : Hid (expd ts = cur ∧ n = p) := by
        obtain ⟨h1, h2, h3, h4, h5⟩ := HI.out
        rw [List.drop_length] at h4
        have hp : p = n := by simpa [tlen] using h4
        rw [List.take_length, List.take_of_length_le (by omega)] at h3
        exact ⟨h3.symm, hp.symm⟩
      go_wp2
      go_ret2
      obtain ⟨h1, h2, h3, h4, h5⟩ := HI.out
      rw [HE.out.1, h2]
      exact ⟨g, n, rfl, h1, hgw, h5, by rw [HX.out]⟩
    | succ gk1 =>
      have hk : k < ts.length := by omega
      obtain ⟨b, off, rfl, HC⟩ := HCS.out (by rintro rfl; simp at hk)
      obtain ⟨c0, c1, c2⟩ := HC k hk
      have hblt : b < w.heap.size := cell_lt c0
      obtain ⟨t, ht⟩ : ∃ t, ts[k] = t := ⟨_, rfl⟩
      have hok : t.ok w := HOK.out t (by rw [← ht]; exact List.getElem_mem hk)
      rw [ht] at c0 c1 c2
      obtain ⟨y1, y2, y3, y4, y5⟩ := HI.out
      have hc0 : wr.cell? ⟨b, off + k * 3, none⟩ = some t.v := by rw [y5.cell (p := ⟨b, off + k * 3, none⟩) hblt]; exact c0
      have hc1 : wr.cell? ⟨b, off + k * 3 + 1, none⟩ = some (.int .i64 t.d) := by rw [y5.cell (p := ⟨b, off + k * 3 + 1, none⟩) hblt]; exact c1
      have hc2 : wr.cell? ⟨b, off + k * 3 + 2, none⟩ = some (.int .i64 t.n) := by rw [y5.cell (p := ⟨b, off + k * 3 + 2, none⟩) hblt]; exact c2
      have HGr : Hid (expd (ts.take (k + 1)) = Tg.grow (cur.take p) t) := by unfold Hid; rw [expd_take hk, ht, y3]
      have HD : Hid (t.right p = true ∧ p + t.add ≤ n ∧ tlen (ts.drop (k + 1)) (p + t.add) = (n, 0)) := by
        rw [drop_at hk, ht, tlen] at y4
        split at y4
        · simp at y4
        · rename_i z1
          split at y4
          · simp at y4
          · have := tlen_le (ts.drop (k + 1)) (p + t.add) (by rw [y4])
            rw [y4] at this
            exact ⟨by simpa using z1, this, y4⟩
      obtain ⟨tv, tl, td, tn⟩ := t
      have hbt : BytesAt w tv tl := hok.1
      obtain ⟨ta, tcap, rfl, -⟩ := hbt
      have HOT : Hid (Tg.ok w ⟨.slice ta tl.length tcap, tl, td, tn⟩) := hok
      clear c0 c1 c2 HC ht hok y1 y2 y3 y4 y5
      obtain ⟨hr1, hr2⟩ : 0 ≤ tn ∧ tn ≤ 258 := Tg.right_n HD.out.1
      obtain ⟨m, rfl⟩ : ∃ m : Nat, tn = (m : Int) := ⟨tn.toNat, by omega⟩
      have hadd : p + tl.length + m ≤ n := by have := HD.out.2.1; simp only [Tg.add] at this; omega
      have HWB : Hid (Below wr.heap.size wr (wr.alloc (.cells #[.slice ta tl.length tcap, .int .i64 td, .int .i64 m] 28))) := (Below.refl _ _).alloc (Nat.le_refl _) _
      have HWC : Hid ((wr.alloc (.cells #[.slice ta tl.length tcap, .int .i64 td, .int .i64 m] 28)).heap[wr.heap.size]? = some (.cells #[.slice ta tl.length tcap, .int .i64 td, .int .i64 m] 28)) := heap_alloc_new _ _
      have HWS : Hid ((wr.alloc (.cells #[.slice ta tl.length tcap, .int .i64 td, .int .i64 m] 28)).heap.size = wr.heap.size + 1) := by unfold Hid; simp
      go_wp2
      clear hc0 hc1 hc2
      obtain ⟨W, hW⟩ : ∃ W, wr.alloc (.cells #[.slice ta tl.length tcap, .int .i64 td, .int .i64 m] 28) = W := ⟨_, rfl⟩
      rw [hW] at HWB HWC HWS ⊢
      clear hW
      have hgl : g < wr.heap.size := HI.out.1.lt
      have hsz : w.heap.size ≤ wr.heap.size := HI.out.2.2.2.2.size
      have HBW : Hid (Below w.heap.size w W) := HI.out.2.2.2.2.trans (HWB.out.mono HI.out.2.2.2.2.size)
      have HOw : Hid (Own W (.slice (some ⟨g, 0, none⟩) n n) cur (some g)) := HI.out.1.later HWB.out
      obtain ⟨S, hS⟩ : ∃ S, wr.heap.size = S := ⟨_, rfl⟩
      rw [hS] at HWC HWS hgl hsz ⊢
      clear hS
      have hw0 : W.cell? ⟨S, 0, none⟩ = some (.slice ta tl.length tcap) := by have := HWC.out; simp [World.cell?, this]
      have hw1 : W.cell? ⟨S, 1, none⟩ = some (.int .i64 td) := by have := HWC.out; simp [World.cell?, this]
      have hw2 : W.cell? ⟨S, 2, none⟩ = some (.int .i64 m) := by have := HWC.out; simp [World.cell?, this]
      have hpn2 : p ≤ n := hpn
      by_cases htl : tl = []
      · subst htl
        have hd : 1 ≤ td ∧ td ≤ p ∧ 5 ≤ m := by
          have := HD.out.1
          unfold Tg.right at this
          rw [if_pos rfl] at this
          simp at this
          omega
        obtain ⟨d, rfl⟩ : ∃ d : Nat, td = (d : Int) := ⟨td.toNat, by omega⟩
        obtain ⟨hd1, hd2, hm5⟩ : 1 ≤ d ∧ d ≤ p ∧ 5 ≤ m := by omega
        have hnp : ¬ n = p := by simp at hadd; omega
        have hpm : p + m ≤ n := by simpa using hadd
        have hr : ∀ ty, (Builtin.copy_ #[22, 22] ty #[.slice (some ⟨g, p, none⟩) (n - p) (n - p), .slice ta 0 tcap]).run Try.prog W.drew = .ok (goInt 0) W.drew := fun ty =>
          run_copy_none W.drew 22 22 ty 5 _ _ _ _ _ _ Try.underlying22 size5 (Nat.zero_min _)
        have HCur : Hid (cur.length = n) := HI.out.2.1
        rw [List.length_nil] at *
        go_region
        have HIn : Hid (Own W.drew (.slice (some ⟨g, 0, none⟩) n n) cur (some g) ∧ Below w.heap.size w W.drew ∧ W.drew.heap[S]? = some (.cells #[.slice ta 0 tcap, .int .i64 d, .int .i64 m] 28)) := ⟨HOw.out, below_drewN HBW.out 1, HWC.out⟩
        clear hr hw0 hw1 hw2
        obtain ⟨V, hV⟩ : ∃ V, W.drew = V := ⟨_, rfl⟩
        rw [hV] at HIn ⊢
        clear hV
        go_wp2
        go_loopg [10] m (fun gg s10 wx => ∃ j pj : Nat, ∃ cur2, j + gg = m ∧ s10 = .int .i64 pj ∧ Hid (pj = p + j) ∧ Hid (Own wx (.slice (some ⟨g, 0, none⟩) n n) cur2 (some g) ∧ cur2.length = n ∧ cur2.take (p + j) = cpy (cur.take p) d j ∧ Below w.heap.size w wx ∧ wx.heap[S]? = some (.cells #[.slice ta 0 tcap, .int .i64 d, .int .i64 m] 28)))
        case atStart => exact ⟨0, p, cur, by omega, rfl, rfl, HIn.out.1, HCur.out, rfl, HIn.out.2.1, HIn.out.2.2⟩
        case round =>
          obtain ⟨j, pj, cur2, hjg, rfl, HPJ, HJ⟩ := hrel
          have hblk := HJ.out.2.2.2.2
          have hx0 : wr.cell? ⟨S, 0, none⟩ = some (.slice ta 0 tcap) := by simp [World.cell?, hblk]
          have hx1 : wr.cell? ⟨S, 1, none⟩ = some (.int .i64 d) := by simp [World.cell?, hblk]
          have hx2 : wr.cell? ⟨S, 2, none⟩ = some (.int .i64 m) := by simp [World.cell?, hblk]
          clear hblk
          cases gk with
          | zero =>
            obtain rfl : j = m := by omega
            have hpj : pj = p + j := HPJ.out
            subst hpj
            go_wp2_with fail
            refine (addedOf ⟨.slice ta 0 tcap, [], d, j⟩ p wr ⟨HOT.out.1.later HJ.out.2.2.2.1, HOT.out.2⟩ HD.out.1).mono ?_
            rintro e w4 ⟨rfl, hb4⟩
            have hAe : Tg.add ⟨.slice ta 0 tcap, [], d, j⟩ = j := by simp [Tg.add]
            have HN : Hid (Own w4 (.slice (some ⟨g, 0, none⟩) n n) cur2 (some g) ∧ cur2.length = n ∧ cur2.take (p + j) = expd (ts.take (k + 1)) ∧ tlen (ts.drop (k + 1)) (p + j) = (n, 0) ∧ Below w.heap.size w w4) := by
              obtain ⟨z1, z2, z3, z4, z5⟩ := HJ.out
              have h3 : tlen (ts.drop (k + 1)) (p + Tg.add ⟨.slice ta 0 tcap, [], d, j⟩) = (n, 0) := HD.out.2.2
              rw [hAe] at h3
              refine ⟨z1.later hb4, z2, ?_, h3, z4.trans (hb4.mono z4.size)⟩
              rw [z3, HGr.out]
              show _ = cpy (cur.take p ++ []) (d : Int).toNat (j : Int).toNat
              rw [List.append_nil, Int.toNat_natCast, Int.toNat_natCast]
            rw [hAe]
            clear hb4 hAe
            go_wp2
            go_roundg gk1
            case measure => omega
            case rel => exact ⟨k + 1, p + j, _, by omega, hpm, by go_num, by go_num, HN.out⟩
          | succ gg =>
            have hj1 : pj < p + m := by have := HPJ.out; omega
            have hj2 : p ≤ pj := by have := HPJ.out; omega
            have hj3 : pj < n := by omega
            obtain ⟨c, hc⟩ : ∃ c, cur2.getD (pj - d) 0 = c := ⟨_, rfl⟩
            obtain ⟨z1, z2, z3, z4, z5⟩ := HJ.out
            have hc256 : c < 256 := by rw [← hc]; exact z1.1 _ (by rw [List.getD_eq_getElem?_getD, List.getElem?_eq_getElem (by omega)]; simp)
            obtain ⟨hld, hst, hfz⟩ : wr.cell? ⟨g, pj - d, none⟩ = some (.int .u8 (c : Int)) ∧ (∃ u, wr.cell? ⟨g, pj, none⟩ = some u) ∧ wr.frozen? ⟨g, pj, none⟩ = false := by
              obtain ⟨_, h0 | ⟨g', cap', e1, e2, hg, q1, q2, q3, q4, q5⟩⟩ := z1
              · obtain ⟨_, _, h⟩ := h0; simp at h
              simp only [Option.some.injEq] at e1
              subst e1
              simp only [Value.slice.injEq] at e2
              obtain ⟨_, e3, rfl⟩ := e2
              refine ⟨by rw [q5 _ (by omega), hc], Option.isSome_iff_exists.mp (q4 pj (by omega)), q3 pj (by omega)⟩
            obtain ⟨u, hst⟩ := hst
            have hnn : ((pj : Int) - (d : Int)).toNat = pj - d := by omega
            have HN : Hid (Own (wr.setCell ⟨g, pj, none⟩ (.int .u8 (c : Int))) (.slice (some ⟨g, 0, none⟩) n n) (cur2.set pj c) (some g) ∧ (cur2.set pj c).length = n ∧ (cur2.set pj c).take (p + (j + 1)) = cpy (cur.take p) d (j + 1) ∧ Below w.heap.size w (wr.setCell ⟨g, pj, none⟩ (.int .u8 (c : Int))) ∧ (wr.setCell ⟨g, pj, none⟩ (.int .u8 (c : Int))).heap[S]? = some (.cells #[.slice ta 0 tcap, .int .i64 d, .int .i64 m] 28)) := by
              have hgs := grow_setCell wr g pj (.int .u8 (c : Int))
              have hpj : pj = p + j := HPJ.out
              refine ⟨z1.set pj c (by omega) hc256, by rw [List.length_set]; exact z2, ?_, z4.trans (grow_below hgs z4.size (fun g' e => by simp at e; omega)), ?_⟩
              · subst hpj
                rw [cpy, ← z3, ← Nat.add_assoc, List.take_succ_eq_append_getElem (by rw [List.length_set]; omega), List.getElem_set_self, List.take_set_of_le (Nat.le_refl _)]
                congr 2
                rw [← hc, List.length_take, Nat.min_eq_left (by omega), getD_take _ _ _ (by omega)]
              · rw [hgs.block S (by have := (Array.getElem?_eq_some_iff.mp z5).1; exact this) (by simp; omega)]; exact z5
            clear z1 z2 z3 z4 z5 hc
            go_wp2
            go_roundg gg
            case measure => omega
            case rel => exact ⟨j + 1, pj + 1, _, by omega, by go_num, by have := HPJ.out; show pj + 1 = p + (j + 1); omega, HN.out⟩
      · have hpos : 0 < tl.length := List.length_pos_iff.mpr htl
        have hnp : ¬ n = p := by omega
        have h00 : td = 0 ∧ m = 0 := by
          have := HD.out.1
          unfold Tg.right at this
          rw [if_neg htl] at this
          simp at this
          omega
        obtain ⟨rfl, rfl⟩ := h00
        have hBd : BytesAt W.drew (.slice ta tl.length tcap) tl := (HOT.out.1.later HBW.out : BytesAt W (.slice ta tl.length tcap) tl)
        obtain ⟨w3, hr, ho3, hg3⟩ := copy_mid (w := W.drew) HOw.out hpos (at' := p) (by omega) hBd
        have HO3 : Hid (Own w3 (.slice (some ⟨g, 0, none⟩) n n) (cur.take p ++ tl ++ cur.drop (p + tl.length)) (some g) ∧ Below w.heap.size w w3) := ⟨ho3, HBW.out.trans (grow_below (w := W) ⟨hg3.os, hg3.tape, hg3.output, hg3.size, hg3.block⟩ HBW.out.size (fun g' e => by simp at e; omega))⟩
        have hblk : w3.heap[S]? = some (.cells #[.slice ta tl.length tcap, .int .i64 0, .int .i64 ((0 : Nat) : Int)] 28) := by
          rw [hg3.block S (by show S < W.heap.size; rw [HWS.out]; omega) (by simp; omega)]; exact HWC.out
        have hx0 : w3.cell? ⟨S, 0, none⟩ = some (.slice ta tl.length tcap) := by simp [World.cell?, hblk]
        have hx1 : w3.cell? ⟨S, 1, none⟩ = some (.int .i64 0) := by simp [World.cell?, hblk]
        have hx2 : w3.cell? ⟨S, 2, none⟩ = some (.int .i64 0) := by simp [World.cell?, hblk]
        have hlen3 : tl.length ≤ 4096 := by omega
        clear ho3 hg3 hblk hBd
        go_region
        clear hr hw0 hw1 hw2
        go_wp2
        refine wp_loop_rounds 1 ?_
        rw [rounds_succ]
        go_wp2_with fail
        refine (addedOf ⟨.slice ta tl.length tcap, tl, 0, 0⟩ p w3 ⟨HOT.out.1.later HO3.out.2, HOT.out.2⟩ HD.out.1).mono ?_
        rintro e w4 ⟨rfl, hb4⟩
        have HN : Hid (Own w4 (.slice (some ⟨g, 0, none⟩) n n) (cur.take p ++ tl ++ cur.drop (p + tl.length)) (some g) ∧ (cur.take p ++ tl ++ cur.drop (p + tl.length)).length = n ∧ (cur.take p ++ tl ++ cur.drop (p + tl.length)).take (p + Tg.add ⟨.slice ta tl.length tcap, tl, 0, 0⟩) = expd (ts.take (k + 1)) ∧ tlen (ts.drop (k + 1)) (p + Tg.add ⟨.slice ta tl.length tcap, tl, 0, 0⟩) = (n, 0) ∧ Below w.heap.size w w4) := by
          have hcl := HI.out.2.1
          refine ⟨HO3.out.1.later hb4, by simp; omega, ?_, HD.out.2.2, HO3.out.2.trans (hb4.mono HO3.out.2.size)⟩
          rw [HGr.out]
          show _ = cpy (cur.take p ++ tl) 0 0
          rw [List.take_append_of_le_length (by simp [Tg.add]; omega), List.take_of_length_le (by simp [Tg.add]; omega)]
          rfl
        have hA := HD.out.2.1
        obtain ⟨A, hAe⟩ : ∃ A, Tg.add ⟨.slice ta tl.length tcap, tl, 0, ((0 : Nat) : Int)⟩ = A := ⟨_, rfl⟩
        have hAe2 : Tg.add ⟨.slice ta tl.length tcap, tl, 0, 0⟩ = A := hAe
        rw [hAe] at hA
        rw [hAe2] at HN ⊢
        clear hb4 hAe hAe2
        go_wp2
        go_roundg gk1
        case measure => omega
        case rel => exact ⟨k + 1, p + A, _, by omega, hA, by go_num, by go_num, HN.out⟩
end Go.Proofs.Ytklfmgkfcacfkaa
