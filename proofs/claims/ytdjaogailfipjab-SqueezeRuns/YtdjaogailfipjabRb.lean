import Derived.Test.YtdjaogailfipjabRa
namespace Go.Proofs.Ytdjaogailfipjab
open Go.RowKit Plain
set_option linter.unusedVariables false
set_option linter.unusedSimpArgs false

set_option maxHeartbeats 1000000 in
set_option maxRecDepth 1000000 in
theorem runsOut (n : Int) (c : Nat) (w : World) (h : n < 0 ∨ 4096 < n) : Calls Try.prog 7 #[.int .i64 n, .int .u8 c] w fun e w' => e = .returned (.bool true) ∧ Below w.heap.size w w' := by
  obtain ⟨i, hi, hz0, hz1, hz2⟩ := info_parts Try.info5
  have HI5 : Hid (Try.prog.info? 5 = some i ∧ i.zero = some (.int .u8 0) ∧ i.size = 1 ∧ i.bytes = 1) := ⟨hi, hz0, hz1, hz2⟩
  clear hi hz0 hz1 hz2
  have hor : (decide (n < 0) || decide (4096 < n)) = true := by simpa using h
  by_cases h0 : n < 0
  case' neg => have h1 : 4096 < n := by omega
  all_goals
    go_enter Try.func7, Try.ntmps7
    go_wp2_with (at_make; refine wpList_make_full _ rfl _ _ 22 rfl w.heap.size 5 i _ 1 Try.underlying22 HI5.out.1 HI5.out.2.1 HI5.out.2.2.1 .i64 .i64 _ _ 4097 rfl rfl rfl rfl (by rw [HI5.out.2.2.2]; omega) (by unfold maxLen; omega) (Nat.le_refl _) ?_)
    intro w1 ho1 hg1
    have HO : Hid (Own w1 (.slice (some ⟨w.heap.size, 0, none⟩) 4097 4097) (List.replicate 4097 0) (some w.heap.size) ∧ Below w.heap.size w w1) := by
      refine ⟨(own_made (base := w.heap.size) (fun j hj => ?_) ho1).1, grow_below hg1 (Nat.le_refl _) (by simp)⟩
      first
        | (rw [toList_madeCells_one]; rw [List.getElem?_replicate, if_pos hj])
        | (have e : (madeCells (Value.int .u8 0).cells (4097 * 1)).toList = List.replicate 4097 (.int .u8 0) := by rw [Nat.mul_one]; exact toList_madeCells_one _ _
           rw [e, List.getElem?_replicate, if_pos hj])
    clear ho1 hg1
    go_wp2_with fail
    refine (encodeLong _ (List.replicate 4097 0) w1 HO.out.1.bytes (by rw [List.length_replicate]; omega)).mono ?_
    rintro e w2 ⟨rfl, rfl⟩
    go_wp2_with fail
    refine (headOf w2).mono ?_
    rintro e w3 ⟨rfl, hb3⟩
    have HB : Hid (Below w.heap.size w w3) := HO.out.2.trans (hb3.mono HO.out.2.size)
    clear hb3
    go_wp2
    go_ret
    exact ⟨rfl, HB.out⟩

set_option maxHeartbeats 4000000 in
set_option maxRecDepth 1000000 in
theorem runsIn (n c : Nat) (w : World) (hn : n ≤ 4096) (hc : c < 256) : Calls Try.prog 7 #[.int .i64 n, .int .u8 c] w fun e w' => e = .returned (.bool true) ∧ Below w.heap.size w w' := by
  obtain ⟨i, hi, hz0, hz1, hz2⟩ := info_parts Try.info5
  have HI5 : Hid (Try.prog.info? 5 = some i ∧ i.zero = some (.int .u8 0) ∧ i.size = 1 ∧ i.bytes = 1) := ⟨hi, hz0, hz1, hz2⟩
  clear hi hz0 hz1 hz2
  go_enter Try.func7, Try.ntmps7
  go_wp2_with (at_make; refine wpList_make_full _ rfl _ _ 22 rfl w.heap.size 5 i _ 1 Try.underlying22 HI5.out.1 HI5.out.2.1 HI5.out.2.2.1 .i64 .i64 _ _ n rfl rfl rfl rfl (by rw [HI5.out.2.2.2]; omega) (by unfold maxLen; omega) (Nat.le_refl _) ?_)
  intro w1 ho1 hg1
  have HO : Hid (Own w1 (.slice (some ⟨w.heap.size, 0, none⟩) n n) (List.replicate n 0) (some w.heap.size) ∧ Below w.heap.size w w1) := by
    refine ⟨(own_made (base := w.heap.size) (fun j hj => ?_) ho1).1, grow_below hg1 (Nat.le_refl _) (by simp)⟩
    first
      | (rw [toList_madeCells_one]; rw [List.getElem?_replicate, if_pos hj])
      | (have e : (madeCells (Value.int .u8 0).cells (n * 1)).toList = List.replicate n (.int .u8 0) := by rw [Nat.mul_one]; exact toList_madeCells_one _ _
         rw [e, List.getElem?_replicate, if_pos hj])
  obtain ⟨g, hg⟩ : ∃ g, w.heap.size = g := ⟨_, rfl⟩
  have HGs : Hid (w.heap.size = g) := hg
  rw [hg] at HO ⊢
  clear ho1 hg1 hg
  go_wp2
  go_loopg [8] n (fun gk s8 wx => ∃ j : Nat, j + gk = n ∧ s8 = .int .i64 j ∧ Hid (Own wx (.slice (some ⟨g, 0, none⟩) n n) (List.replicate j c ++ List.replicate (n - j) 0) (some g) ∧ Below g w wx))
  case atStart => exact ⟨0, by omega, rfl, by simpa using HO.out.1, HO.out.2⟩
  case round =>
    obtain ⟨j, hjg, rfl, HI⟩ := hrel
    clear HO
    cases gk with
    | zero =>
      have hjn : j = n := by omega
      subst hjn
      have HOt : Hid (Own wr (.slice (some ⟨g, 0, none⟩) j j) (List.replicate j c) (some g)) := by
        have := HI.out.1
        rwa [Nat.sub_self, List.replicate_zero, List.append_nil] at this
      have HBt : Hid (Below w.heap.size w wr) := by have := HI.out.2; rw [← HGs.out] at this; exact this
      obtain ⟨R, hR⟩ : ∃ R, List.replicate j c = R := ⟨_, rfl⟩
      have hRl : R.length = j := by rw [← hR, List.length_replicate]
      rw [hR] at HOt
      have HR : Hid (List.replicate j c = R) := hR
      have HRl : Hid (R.length = j) := hRl
      clear HI hR hRl
      go_wp2_with fail
      refine (tokensAny _ R wr HOt.out.bytes (by rw [HRl.out]; exact hn)).mono ?_
      rintro e w2 ⟨tv, ts, r2, rfl, hp2, ht2, hb2⟩
      rw [HRl.out] at hp2
      have HP2 : Hid (PreP R ts j) := hp2
      have HT2 : Hid (TRow (wr.heap.size + 1) w2 tv ts r2) := ht2
      have HB2 : Hid (Below wr.heap.size wr w2) := hb2
      clear hp2 ht2 hb2
      obtain ⟨ta, tcap, rfl, htm, htc⟩ := HT2.out.own.shape
      unfold maxLen at htm
      go_wp2_with fail
      refine (encodeOf _ R w2 (HOt.out.later HB2.out).bytes (by rw [HRl.out]; exact hn)).mono ?_
      rintro e w3 ⟨v3, r3, ts3, rfl, hp3, ho3, hb3, -⟩
      have hbl : (blk R.length ts3).length = (uv j).length + (ts.flatMap Tk.enc).length := by
        have hc3 := hp3.unique (by rw [HRl.out]; exact HP2.out : PreP R ts R.length)
        rw [blk_c hc3, HRl.out]
        unfold blk
        rw [List.length_append]
      obtain ⟨a3, c3, rfl⟩ := ho3.isSlice
      rw [hbl]
      obtain ⟨E, hE⟩ : ∃ E, (uv j).length + (ts.flatMap Tk.enc).length = E := ⟨_, rfl⟩
      have HE : Hid ((uv j).length + (ts.flatMap Tk.enc).length = E) := hE
      rw [hE]
      have HB3 : Hid (Below w2.heap.size w2 w3) := hb3
      have HT3 : Hid (TRow (wr.heap.size + 1) w3 (.slice ta ts.length tcap) ts r2) := HT2.out.after hb3
      have HOt3 : Hid (Own w3 (.slice (some ⟨g, 0, none⟩) j j) R (some g)) := (HOt.out.later HB2.out).later hb3
      have HBw3 : Hid (Below w.heap.size w w3) := by
        have h2 := HBt.out.trans (HB2.out.mono HBt.out.size)
        exact h2.trans (hb3.mono h2.size)
      have hts4 : ts.length ≤ 4096 := by have := HP2.out.count; omega
      have hE4 : E ≤ 5000 * 4097 := by
        have h1 := uv_len10 (v := j) (by omega)
        have h2 := encs_len ts (HP2.out.fits (by rw [HRl.out]; exact hn))
        omega
      clear hp3 ho3 hb3 hbl hE
      by_cases h6 : j < 6
      · by_cases h0 : j = 0
        · have hts0 : ts.length = 0 := by have := HP2.out.count; omega
          have hE1 : E = 1 := by
            have : ts = [] := List.length_eq_zero_iff.mp hts0
            rw [← HE.out, this, h0, uv_lt (by omega)]; rfl
          subst h0
          rw [hts0, hE1]
          go_wp2
          go_ret
          exact ⟨rfl, HBw3.out⟩
        · have hcan : ts.map Tk.c = [Tk.lit 0 R] := by
            have hq : PreP R [.lit 0 R] R.length := by
              have := rep_few j c (by omega) h6
              rw [HR.out] at this
              rw [HRl.out]; exact this
            have h2 : PreP R ts R.length := by rw [HRl.out]; exact HP2.out
            exact h2.unique hq
          have hts1 : ts.length = 1 := by have := congrArg List.length hcan; simpa using this
          have hE2 : E = j + 2 := by
            have e1 : (ts.flatMap Tk.enc).length = (uv (2 * j)).length + j := by
              have : ts.flatMap Tk.enc = [Tk.lit 0 R].flatMap Tk.enc := by
                have hh := blk_c (n := 0) (ts := ts) (ss := [.lit 0 R]) (by rw [hcan]; rfl)
                unfold blk at hh
                exact List.append_cancel_left hh
              rw [this]
              simp [Tk.enc_lit, Tk.enc_mat, HRl.out]
            rw [← HE.out, e1, uv_lt (by omega), uv_lt (by omega)]
            simp; omega
          obtain ⟨t0, hst⟩ : ∃ t0, ts = [t0] := List.length_eq_one_iff.mp hts1
          subst hst
          obtain ⟨gl, ht0⟩ : ∃ gl, t0 = .lit gl R := by
            simp only [List.map_cons, List.map_nil, List.cons.injEq, and_true] at hcan
            cases t0 using Tk.elim with
            | lit g' l' => simp only [Tk.c_lit, Tk.c_mat, Tk.lit_inj, true_and] at hcan; exact ⟨g', by rw [hcan]⟩
            | mat d m => simp [Tk.c_lit, Tk.c_mat] at hcan
          subst ht0
          rcases HT3.out.own with ⟨_, h, _⟩ | ⟨gT, tc', _, he, hgT, _, _, _, _, hcT⟩
          · simp at h
          simp only [Value.slice.injEq] at he
          obtain ⟨rfl, _, rfl⟩ := he
          have k0 : w3.cell? ⟨gT, 0, none⟩ = some (.slice (some ⟨gl, 0, none⟩) R.length R.length) := by rw [hcT 0 (by simp)]; rfl
          have HBl : Hid (BytesAt w3 (.slice (some ⟨gl, 0, none⟩) R.length R.length) R) := (HT3.out.lits gl R (by simp)).2.2.2.bytes
          have hl1 : [Tk.lit gl R].length = 1 := rfl
          rw [hl1] at htc ⊢
          clear hcT hcan hts1 hts4
          subst hE2
          have hj0 : 0 < j := by omega
          go_wp2_with fail
          refine (sameYes _ _ R w3 HBl.out HOt3.out.bytes).mono ?_
          rintro e w4 ⟨rfl, n4, rfl⟩
          go_wp2
          go_ret
          exact ⟨by first | rfl | exact retB1 (by simp), below_drewN HBw3.out _⟩
      · have hcan : ts.map Tk.c = (Tk.lit 0 [c] :: rt c (j - 1)).map Tk.c := by
          have hq : PreP R (.lit 0 [c] :: rt c (j - 1)) R.length := by
            have := rep_whole j c (by omega)
            rw [HR.out] at this
            rw [HRl.out]; exact this
          have h2 : PreP R ts R.length := by rw [HRl.out]; exact HP2.out
          exact h2.unique hq
        obtain ⟨t0, ts', hst⟩ : ∃ t0 ts', ts = t0 :: ts' := by
          cases ts with
          | nil => simp at hcan
          | cons a b => exact ⟨a, b, rfl⟩
        have hcan0 : t0.c = .lit 0 [c] ∧ ts'.map Tk.c = (rt c (j - 1)).map Tk.c := by
          rw [hst] at hcan
          simp only [List.map_cons, List.cons.injEq] at hcan
          exact ⟨hcan.1, hcan.2⟩
        obtain ⟨gl, ht0⟩ : ∃ gl, t0 = .lit gl [c] := by
          have := hcan0.1
          cases t0 using Tk.elim with
          | lit g' l' => simp only [Tk.c_lit, Tk.c_mat, Tk.lit_inj, true_and] at this; exact ⟨g', by rw [this]⟩
          | mat d m => simp [Tk.c_lit, Tk.c_mat] at this
        have hne1 : ts' ≠ [] := by
          intro h
          have := hcan0.2
          rw [h, rt_more (by omega)] at this
          simp at this
        have hlen2 : 2 ≤ ts.length := by rw [hst]; have := List.length_pos_iff.mpr hne1; simp; omega
        have encC : ∀ xs ys : List Tk, xs.map Tk.c = ys.map Tk.c → xs.flatMap Tk.enc = ys.flatMap Tk.enc := fun xs ys h => by
          have hh := blk_c (n := 0) h
          unfold blk at hh
          exact List.append_cancel_left hh
        have HEnc : Hid (∀ xs ys : List Tk, xs.map Tk.c = ys.map Tk.c → xs.flatMap Tk.enc = ys.flatMap Tk.enc) := encC
        have HE0 : Hid ((uv j).length + 2 + ((rt c (j - 1)).flatMap Tk.enc).length = E) := by
          have h1 := HE.out
          rw [encC _ _ hcan, List.flatMap_cons, List.length_append] at h1
          have h2 : (Tk.lit 0 [c]).enc.length = 2 := by simp [Tk.enc_lit, Tk.enc_mat, uv_lt (show 2 * 1 < 128 by omega)]
          rw [h2] at h1
          unfold Hid; omega
        have HD0 : Hid ((ts.drop 1).map Tk.c = (rt c (j - 1)).map Tk.c) := by unfold Hid; rw [hst]; exact hcan0.2
        rcases HT3.out.own with ⟨_, h, _⟩ | ⟨gT, tc', _, he, hgT, _, _, _, _, hcT⟩
        · rw [h] at hst; simp at hst
        simp only [Value.slice.injEq] at he
        obtain ⟨rfl, _, rfl⟩ := he
        have HCT : Hid (∀ q, q < 3 * ts.length → w3.cell? ⟨gT, q, none⟩ = (tcells ts)[q]?) := hcT
        have k0 : w3.cell? ⟨gT, 0, none⟩ = some (.slice (some ⟨gl, 0, none⟩) 1 1) := by
          rw [hcT 0 (by omega), hst, ht0]; rfl
        have HBl : Hid (BytesAt w3 (.slice (some ⟨gl, 0, none⟩) 1 1) [c]) := (HT3.out.lits gl [c] (by rw [hst, ht0]; simp)).2.2.2.bytes
        have HTk : Hid (∀ m, m ≤ j → BytesAt w3 (.slice (some ⟨g, 0, none⟩) m j) (List.replicate m c)) := fun m hm => by
          have := HOt3.out.bytes.take m (by rw [HRl.out]; exact hm)
          rwa [← HR.out, List.take_replicate, Nat.min_eq_left hm] at this
        have HSm : Hid (∀ q, Calls Try.prog 12 #[.slice (some ⟨gl, 0, none⟩) 1 1, .slice (some ⟨g, 0, none⟩) 1 j] (w3.drewN q) fun e w'' => e = .returned (.bool true) ∧ ∃ m, w'' = w3.drewN m) := fun q => by
          refine (sameBytes _ _ [c] [c] (w3.drewN q) (HBl.out.drewN q) ((HTk.out 1 (by omega)).drewN q)).mono ?_
          rintro e w'' ⟨rfl, m, rfl⟩
          exact ⟨retB1 (by simp), _, World.drewN_drewN _ _ _⟩
        have hd2 : decide ((ts.length : Int) < 2) = false := by simp; omega
        have hd3 : decide (ts.length < 2) = false := by simp; omega
        obtain ⟨X, hX⟩ : ∃ X, (uv j).length = X := ⟨_, rfl⟩
        have hX10 : X ≤ 10 := by rw [← hX]; exact uv_len10 (by omega)
        have HNu : Hid (∀ w, Calls Try.prog 22 #[.int .i64 j] w fun e w' => e = .returned (.int .i64 (X : Nat)) ∧ w' = w) := fun w => by
          have := lnumber j w (by omega)
          rwa [hX] at this
        rw [hX] at HE0
        clear hcT hcan hst hcan0 ht0 hne1 encC hX
        go_wp2
        go_quiet ((go_at_call 12; exact HSm.out _))
        go_wp2_with fail
        refine (HNu.out _).mono ?_
        rintro e w4 ⟨rfl, rfl⟩
        obtain ⟨K, hK⟩ : ∃ K, 1 + K = ts.length := ⟨ts.length - 1, by omega⟩
        go_wp2
        clear k0 hd2 hd3
        have HK : Hid (1 + K = ts.length) := hK
        go_loopg [13, 14, 15] K (fun gk s13 s14 s15 wx => ∃ k left size : Nat, k + gk = ts.length ∧ s13 = .int .i64 left ∧ s14 = .int .i64 size ∧ s15 = .int .i64 k ∧ left ≤ 4096 ∧ left ≤ j ∧ size ≤ E ∧ Hid ((ts.drop k).map Tk.c = (rt c left).map Tk.c ∧ size + ((rt c left).flatMap Tk.enc).length = E ∧ Below w3.heap.size w3 wx))
        case atStart => exact ⟨1, j - 1, X + 2, hK, by congr 1; omega, by go_num, rfl, by omega, by omega, by have := HE0.out; omega, HD0.out, HE0.out, below_drewN (Below.refl _ _) nq⟩
        case round =>
          obtain ⟨k, left, size, hkg, rfl, rfl, rfl, hl4, hlj, hsE, HL⟩ := hrel
          clear hK
          cases gk with
          | zero =>
            have hk : k = ts.length := by omega
            have hz : left = 0 ∧ size = E := by
              obtain ⟨y1, y2, _⟩ := HL.out
              rw [hk, List.drop_length] at y1
              have h0 : rt c left = [] := by simpa using y1.symm
              rw [h0] at y2
              exact ⟨rt_nil h0, by simpa using y2⟩
            obtain ⟨rfl, rfl⟩ := hz
            have HBf : Hid (Below w.heap.size w wr) := HBw3.out.trans (HL.out.2.2.mono HBw3.out.size)
            clear hk
            go_wp2
            go_ret
            exact ⟨rfl, HBf.out⟩
          | succ gk1 =>
            have hk : k < ts.length := by omega
            have hdk := drop_at hk
            have cellAt : ∀ q, q < 3 → wr.cell? ⟨gT, k * 3 + q, none⟩ = (ts[k]).cells[q]? := fun q hq => by
              rw [HL.out.2.2.cell (p := ⟨gT, k * 3 + q, none⟩) hgT, HCT.out _ (by omega), show k * 3 + q = 3 * k + q by omega, tcells_get ts k hk q hq]
            by_cases h0 : left = 0
            · exfalso
              have y1 := HL.out.1
              rw [h0, rt_zero, hdk] at y1
              exact absurd (congrArg List.length y1) (by simp; omega)
            · by_cases h5 : left < 5
              · obtain ⟨gl2, ht, hend, hsz⟩ : ∃ gl2, ts[k] = .lit gl2 (List.replicate left c) ∧ k + 1 = ts.length ∧ size + 1 + left = E := by
                  obtain ⟨y1, y2, _⟩ := HL.out
                  rw [rt_few h0 h5] at y1 y2
                  rw [hdk] at y1
                  simp only [List.map_cons, List.map_nil, List.cons.injEq] at y1
                  have hnil : ts.drop (k + 1) = [] := by simpa using y1.2
                  have hle : ts.length ≤ k + 1 := by simpa using hnil
                  have hen : ((Tk.lit 0 (List.replicate left c)).enc).length = 1 + left := by
                    show (uv (2 * (List.replicate left c).length) ++ List.replicate left c).length = 1 + left
                    rw [List.length_replicate, uv_lt (by omega), List.length_append, List.length_replicate]; rfl
                  have hlit : ∃ g', ts[k] = .lit g' (List.replicate left c) := by
                    cases h : ts[k] using Tk.elim with
                    | lit g' l' => rw [h] at y1; simp only [Tk.c_lit, Tk.c_mat, Tk.lit_inj, true_and] at y1; exact ⟨g', by rw [y1.1]⟩
                    | mat d m => rw [h] at y1; simp [Tk.c_lit, Tk.c_mat] at y1
                  obtain ⟨g', hg'⟩ := hlit
                  refine ⟨g', hg', by omega, ?_⟩
                  simp only [List.flatMap_cons, List.flatMap_nil, List.append_nil] at y2
                  omega
                have c0 : wr.cell? ⟨gT, k * 3, none⟩ = some (.slice (some ⟨gl2, 0, none⟩) left left) := by
                  have := cellAt 0 (by omega)
                  rw [ht] at this
                  rw [← Nat.add_zero (k * 3), this]; simp [Tk.cells_lit, Tk.cells_mat]
                have c1 : wr.cell? ⟨gT, k * 3 + 1, none⟩ = some (.int .i64 0) := by rw [cellAt 1 (by omega), ht]; rfl
                have c2 : wr.cell? ⟨gT, k * 3 + 2, none⟩ = some (.int .i64 0) := by rw [cellAt 2 (by omega), ht]; rfl
                have HWb : Hid (Below w3.heap.size w3 (wr.alloc (.cells #[.slice (some ⟨gl2, 0, none⟩) left left, .int .i64 0, .int .i64 0] 36))) := HL.out.2.2.alloc HL.out.2.2.size _
                have HBl2 : Hid (BytesAt w3 (.slice (some ⟨gl2, 0, none⟩) left left) (List.replicate left c)) := by
                  have := (HT3.out.lits gl2 (List.replicate left c) (by rw [← ht]; exact List.getElem_mem hk)).2.2.2.bytes
                  rwa [List.length_replicate] at this
                have hEq : ((k : Int) == (ts.length : Int) - 1) = true := by simp; omega
                have hEq2 : (ts.length : Int) - 1 = (k : Int) := by omega
                have hsz2 : ((size : Int) + 1 + (left : Int)) = (E : Int) := by omega
                have hlj2 : left ≤ j := hlj
                clear hdk cellAt ht
                go_wp2
                clear c0 c1 c2
                obtain ⟨W, hW⟩ : ∃ W, wr.alloc (.cells #[.slice (some ⟨gl2, 0, none⟩) left left, .int .i64 0, .int .i64 0] 36) = W := ⟨_, rfl⟩
                have hw0 : W.cell? ⟨wr.heap.size, 0, none⟩ = some (.slice (some ⟨gl2, 0, none⟩) left left) := by rw [← hW, World.cell?_alloc_at _ _ _ _ rfl]; rfl
                have hw1 : W.cell? ⟨wr.heap.size, 1, none⟩ = some (.int .i64 0) := by rw [← hW, World.cell?_alloc_at _ _ _ _ rfl]; rfl
                have hw2 : W.cell? ⟨wr.heap.size, 2, none⟩ = some (.int .i64 0) := by rw [← hW, World.cell?_alloc_at _ _ _ _ rfl]; rfl
                rw [hW] at HWb ⊢
                clear hW
                have HSm2 : Hid (∀ q, Calls Try.prog 12 #[.slice (some ⟨gl2, 0, none⟩) left left, .slice (some ⟨g, 0, none⟩) left j] (W.drewN q) fun e w'' => e = .returned (.bool true) ∧ ∃ m, w'' = W.drewN m) := fun q => by
                  refine (sameBytes _ _ (List.replicate left c) (List.replicate left c) (W.drewN q) ((HBl2.out.later HWb.out).drewN q) (((HTk.out left hlj).later HWb.out).drewN q)).mono ?_
                  rintro e w'' ⟨rfl, m, rfl⟩
                  exact ⟨retB1 (by simp), _, World.drewN_drewN _ _ _⟩
                have HBf : Hid (Below w.heap.size w W) := HBw3.out.trans (HWb.out.mono HBw3.out.size)
                go_quiet ((go_at_call 12; exact HSm2.out _))
                go_wp2
                go_ret
                exact ⟨by first | rfl | exact retB1 (by simp), below_drewN HBf.out _⟩
              · obtain ⟨want, hwant⟩ : ∃ want, min left 258 = want := ⟨_, rfl⟩
                obtain ⟨Y, hY⟩ : ∃ Y, (uv (2 * want + 1)).length = Y := ⟨_, rfl⟩
                have hY10 : Y ≤ 10 := by rw [← hY]; exact uv_len10 (by omega)
                obtain ⟨ht, hN1, hN2⟩ : ts[k] = .mat 1 want ∧ (ts.drop (k + 1)).map Tk.c = (rt c (left - want)).map Tk.c ∧ size + (Y + 1) + ((rt c (left - want)).flatMap Tk.enc).length = E := by
                  obtain ⟨y1, y2, _⟩ := HL.out
                  rw [rt_more (by omega), hwant] at y1 y2
                  rw [hdk] at y1
                  simp only [List.map_cons, List.cons.injEq] at y1
                  refine ⟨?_, y1.2, ?_⟩
                  · cases h : ts[k] using Tk.elim with
                    | lit g' l' => rw [h] at y1; simp [Tk.c_lit, Tk.c_mat] at y1
                    | mat d m => rw [h] at y1; exact y1.1
                  · rw [List.flatMap_cons, List.length_append] at y2
                    have hen : ((Tk.mat 1 want).enc).length = Y + 1 := by
                      show (uv (2 * want + 1) ++ uv 1).length = Y + 1
                      rw [List.length_append, hY, uv_lt (show 1 < 128 by omega)]; rfl
                    omega
                have c0 : wr.cell? ⟨gT, k * 3, none⟩ = some (.slice none 0 0) := by
                  have := cellAt 0 (by omega)
                  rw [ht] at this
                  rw [← Nat.add_zero (k * 3), this]; rfl
                have c1 : wr.cell? ⟨gT, k * 3 + 1, none⟩ = some (.int .i64 1) := by rw [cellAt 1 (by omega), ht]; rfl
                have c2 : wr.cell? ⟨gT, k * 3 + 2, none⟩ = some (.int .i64 want) := by rw [cellAt 2 (by omega), ht]; rfl
                have HWb : Hid (Below w3.heap.size w3 (wr.alloc (.cells #[.slice none 0 0, .int .i64 1, .int .i64 want] 36))) := HL.out.2.2.alloc HL.out.2.2.size _
                have HNx : Hid ((ts.drop (k + 1)).map Tk.c = (rt c (left - want)).map Tk.c ∧ size + (Y + 1) + ((rt c (left - want)).flatMap Tk.enc).length = E) := ⟨hN1, hN2⟩
                have HNu2 : Hid (∀ w, Calls Try.prog 22 #[.int .i64 (2 * (want : Int) + 1)] w fun e w' => e = .returned (.int .i64 (Y : Nat)) ∧ w' = w) := fun w => by
                  have := lnumber (2 * want + 1) w (by omega)
                  rw [hY] at this
                  simpa using this
                have hsY : size + (Y + 1) ≤ E := by omega
                have hwl : want ≤ left := by omega
                have hw5 : 5 ≤ want := by omega
                have hw258 : want ≤ 258 := by omega
                clear hdk cellAt ht hN1 hN2 hY
                by_cases hbig : 258 < left
                · obtain rfl : want = 258 := by omega
                  clear hwant
                  go_wp2_with fail
                  clear c0 c1 c2
                  refine (HNu2.out _).mono ?_
                  rintro e w5 ⟨rfl, rfl⟩
                  go_wp2
                  go_roundg gk1
                  case measure => omega
                  case rel => exact ⟨k + 1, left - 258, size + (Y + 1), by omega, by first | (congr 1; done) | (congr 1; omega), by first | (congr 1; done) | (congr 1; omega), by go_num, by omega, by omega, hsY, HNx.out.1, HNx.out.2, HWb.out⟩
                · have hwe : want = left := by omega
                  subst hwe
                  clear hwant
                  go_wp2_with fail
                  clear c0 c1 c2
                  refine (HNu2.out _).mono ?_
                  rintro e w5 ⟨rfl, rfl⟩
                  go_wp2
                  go_roundg gk1
                  case measure => omega
                  case rel => exact ⟨k + 1, want - want, size + (Y + 1), by omega, by first | (congr 1; done) | (congr 1; omega), by first | (congr 1; done) | (congr 1; omega), by go_num, by omega, by omega, hsY, HNx.out.1, HNx.out.2, HWb.out⟩
    | succ gk1 =>
      have hj : j < n := by omega
      obtain ⟨hst, hfz⟩ : (∃ u, wr.cell? ⟨g, j, none⟩ = some u) ∧ wr.frozen? ⟨g, j, none⟩ = false := by
        obtain ⟨_, h0 | ⟨g', cap', e1, e2, hg, q1, q2, q3, q4, q5⟩⟩ := HI.out.1
        · obtain ⟨_, _, h⟩ := h0; simp at h
        simp only [Option.some.injEq] at e1
        subst e1
        simp only [Value.slice.injEq] at e2
        obtain ⟨_, e3, rfl⟩ := e2
        exact ⟨Option.isSome_iff_exists.mp (q4 j (by omega)), q3 j (by omega)⟩
      obtain ⟨u, hst⟩ := hst
      have HN : Hid (Own (wr.setCell ⟨g, j, none⟩ (.int .u8 (c : Int))) (.slice (some ⟨g, 0, none⟩) n n) (List.replicate (j + 1) c ++ List.replicate (n - (j + 1)) 0) (some g) ∧ Below g w (wr.setCell ⟨g, j, none⟩ (.int .u8 (c : Int)))) := by
        have h1 := HI.out.1.set j c (by simp; omega) hc
        have e : (List.replicate j c ++ List.replicate (n - j) 0).set j c = List.replicate (j + 1) c ++ List.replicate (n - (j + 1)) 0 := by
          rw [List.set_append_right _ _ (by simp), List.length_replicate, Nat.sub_self, show n - j = (n - (j + 1)) + 1 by omega, List.replicate_succ, List.set_cons_zero, List.replicate_succ']
          simp
        rw [e] at h1
        exact ⟨h1, HI.out.2.trans (grow_below (grow_setCell wr g j _) (by have := HI.out.1.lt; omega) (by simp))⟩
      go_wp2
      go_roundg gk1
      case measure => omega
      case rel => exact ⟨j + 1, by omega, by go_num, HN.out⟩

theorem runsAny (n : Int) (c : Nat) (w : World) (hc : c < 256) : Calls Try.prog 7 #[.int .i64 n, .int .u8 c] w fun e w' => e = .returned (.bool true) ∧ Below w.heap.size w w' := by
  by_cases h : n < 0 ∨ 4096 < n
  · exact runsOut n c w h
  · obtain ⟨m, rfl⟩ : ∃ m : Nat, n = (m : Int) := ⟨n.toNat, by omega⟩
    exact runsIn m c w (by omega) hc
end Go.Proofs.Ytdjaogailfipjab
