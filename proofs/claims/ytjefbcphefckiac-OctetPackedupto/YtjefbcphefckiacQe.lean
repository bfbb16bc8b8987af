import Derived.Test.YtjefbcphefckiacQd
/-! The law of packed items, where they fit. -/
namespace Go.Proofs.Ytjefbcphefckiac
open Go.RowKit Plain
set_option linter.unusedVariables false

theorem wpList_maxN {ops : Array Oper} {rest : List Oper} {o : Oper} {a : Act} {Q : Exit → Act → World → Prop} {w : World} (hgd : o.guard = none) (s x : Operand) (t tx : TypeId) (z y m : Int)
    (ho : o.op = .call { callee := .builtin .max, args := #[s, x], argTypes := #[t, tx] }) (hs : a.eval s = .int .i64 z) (hx : a.eval x = .int .i64 y) (hm : (if y > z then y else z) = m)
    (h : wpList Try.prog ops Q rest (a.put o.dst (.int .i64 m)) w) : wpList Try.prog ops Q (o :: rest) a w :=
  wpList_plain hgd fun _ hK => by
    have hr := run_max_int2 (P := Try.prog) (w := w) #[t, tx] o.type .i64 .i64 z y
    rw [hm] at hr
    unfold Oper.wp execOp
    simp only [ho, resolve, invoke, builtin, Sem.run_bind, Sem.run_pure, Result.andThen_ok, List.map_toArray, List.map_cons, List.map_nil, hs, hx, hr]
    exact hK _ _ h

theorem src_k (W : World) (k : Int) : Src Try.prog 1 23 (.slice (some ⟨W.heap.size, 0, none⟩) 1 1) [k].length (kcells [k]) (W.alloc (.cells #[.int .i64 k] 3)) :=
  Src.ofSlice _ Try.underlying23 _ 1 1 _ (by rfl) (fun j u hj => by
    rw [WideShapes.add_plain, World.cell?_alloc_at _ _ _ _ rfl, Nat.zero_add, ← hj]
    simp [kcells]) (kcells_one _)

theorem src_zero (w : World) : Src Try.prog 1 24 (.slice (some ⟨w.heap.size, 0, none⟩) 1 1) [0].length (cellsOf [0]) (w.alloc (.cells #[.int .u8 0] 5)) := src_one w 0 24 5 Try.underlying24
theorem later_k {w w' : World} {v : Value} {l : List Int} {r : Option Nat} (h : OwnK w v l r) (k : Below w.heap.size w w') : OwnK w' v l r := by
  rcases r with _ | g
  · exact h.kept (below_grow k none) (.inl rfl)
  · exact h.kept (below_grow k none) (.inr (by simp))

set_option maxRecDepth 100000 in
set_option maxHeartbeats 4000000 in
theorem packedGood (vi vk vb : Value) (st : List It) (ks : List Int) (most : Int) (l : List Nat) (w : World) (hi : ItemsAt w vi st) (hk : IntsAt w vk ks) (hb : BytesAt w vb l) (hst : bulk st ≤ 1099511627776) (hl : l.length ≤ 1099511627776) (hkl : ks.length ≤ 1099511627776) (hm1 : -9223372036854775808 ≤ most) (hm2 : most ≤ 9223372036854775807) (hf : st.all It.fits = true) :
    Calls Try.prog 3 #[vi, vk, .int .i64 most, vb] w fun e w' => e = .returned (.bool true) ∧ Below w.heap.size w w' := by
  have HI : Hid (ItemsAt w vi st) := hi
  have HK : Hid (IntsAt w vk ks) := hk
  have HL : Hid (BytesAt w vb l) := hb
  obtain ⟨ab, capb, rfl, -⟩ := hb
  obtain ⟨ak, capk, rfl, -⟩ := hk
  obtain ⟨a, cap, rfl, hcl, hsn, hcells⟩ := hi
  unfold maxLen at hcl
  have HCE : Hid (st ≠ [] → ∃ b off, a = some ⟨b, off, none⟩ ∧ ∀ j, j < st.length → w.cell? ⟨b, off + j * 3, none⟩ = some (.int .i64 (st.getD j It.none).k) ∧ w.cell? ⟨b, off + j * 3 + 1, none⟩ = some (.int .u64 ((st.getD j It.none).n : Int)) ∧ w.cell? ⟨b, off + j * 3 + 2, none⟩ = some (.string (st.getD j It.none).s)) := hcells
  have HSN : Hid (∀ x ∈ st, x.n < 18446744073709551616 ∧ x.s.size < 18446744073709551616) := hsn
  have HFA : Hid (st.all It.fits = true) := hf
  have HF : Hid (packErr st = 0 ∧ packed st = flat st) := ⟨(packed_good st hf).2, (packed_good st hf).1⟩
  have HFL : Hid ((flat st).length ≤ 1099511627776) := by have := flat_all st hsn; unfold Hid; omega
  have HST : Hid (st.length ≤ 1099511627776) := by have := bulk_len st; unfold Hid; omega
  have HKB : Hid (∀ j, ∀ c ∈ (st.take j).map It.k, -9223372036854775808 ≤ c ∧ c ≤ 9223372036854775807) := fun j c hc => by
    obtain ⟨x, hx, rfl⟩ := List.mem_map.mp hc
    have h1 := kindOk_of_fits x (List.all_eq_true.mp hf x (List.mem_of_mem_take hx))
    simp [kindOk] at h1
    omega
  have HMX : Hid (∀ j, mx (st.take j) ≤ 1099511627776) := fun j => mx_le _ _ (fun x hx => by
    have := bulk_size st x (List.mem_of_mem_take hx)
    omega)
  have HBI : Hid (∀ b off, a = some ⟨b, off, none⟩ → st ≠ [] → b < w.heap.size) := fun b off e hne => by
    obtain ⟨b', off', e', hc⟩ := hcells hne
    rw [e] at e'
    simp at e'
    have := cell_lt (hc 0 (List.length_pos_iff.mpr hne)).1
    simp only at this
    omega
  clear hf hcells hsn
  go_enter Try.func3, Try.ntmps3
  go_wp2_with fail
  refine (unpackFirstAt w).mono ?_
  rintro e w1 ⟨g1, cap1, p1, rfl, hc1, hb1⟩
  have HB1 : Hid (Below w.heap.size w w1) := hb1
  have hg1 := cell_lt hc1
  simp only at hg1
  clear hb1
  go_wp2_with fail
  refine (packAny _ st _ (HI.out.later (HB1.out.alloc HB1.out.size _)) (by omega)).mono ?_
  rintro e w2 ⟨vx, rx, rfl, hox, hrx, hbx⟩
  have HB2 : Hid (Below w.heap.size w w2) := below_on (HB1.out.alloc HB1.out.size _) hbx
  obtain ⟨ax, capx, rfl⟩ := hox.isSlice
  rw [HF.out.2] at hox
  rw [HF.out.1, HF.out.2]
  obtain ⟨N, hN⟩ : ∃ N, (flat st).length = N := ⟨_, rfl⟩
  rw [hN] at hox ⊢
  have HOX : Hid (Own w2 (.slice ax N capx) (flat st) rx) := hox
  have HN : Hid ((flat st).length = N) := hN
  have hNl : N ≤ 1099511627776 := by have := HFL.out; omega
  have hNc : N ≤ capx ∧ capx ≤ 9223372036854775807 := by
    rcases hox.2 with ⟨h0, h1, _⟩ | ⟨g, cap', _, h0, _, h1, h2, _⟩
    · injection h0 with _ h2 h3; subst h3; omega
    · injection h0 with _ h3 h4; unfold maxLen at h2; omega
  clear hox hrx hbx hc1 hg1 hN
  go_wp2
  go_loopw [13, 14, 15] (fun s13 s14 s15 wr => ∃ (k : Nat) (q : Option Nat) (a13 : Option Addr) (cap13 : Nat), k ≤ st.length ∧ s15 = .int .i64 k ∧ s14 = .int .i64 (mx (st.take k) : Nat) ∧ s13 = .slice a13 k cap13 ∧ OwnK wr (.slice a13 k cap13) ((st.take k).map It.k) q ∧ (∀ g, q = some g → w2.heap.size ≤ g) ∧ Below w2.heap.size w2 wr) (fun _ _ i _ => st.length - (intOf i).toNat)
  case atStart => exact ⟨0, none, none, 0, by omega, rfl, rfl, rfl, OwnK.nil _, by simp, Below.refl _ _⟩
  case round =>
    obtain ⟨k, q, a13, cap13, hk, rfl, rfl, rfl, hown, hq, hbl⟩ := hrel
    have HO : Hid (OwnK wr (.slice a13 k cap13) ((st.take k).map It.k) q) := hown
    have HQ : Hid (∀ g, q = some g → w2.heap.size ≤ g) := hq
    have HBL : Hid (Below w2.heap.size w2 wr) := hbl
    have HBW : Hid (Below w.heap.size w wr) := below_on HB2.out hbl
    clear hown hq hbl
    by_cases hlt : k < st.length
    · have hne : st ≠ [] := by rintro rfl; simp at hlt
      obtain ⟨b, off, rfl, hc⟩ := HCE.out hne
      obtain ⟨c0, -, d2⟩ := hc k hlt
      have HT : Hid ((st.take (k + 1)).map It.k = (st.take k).map It.k ++ [(st.getD k It.none).k]) := by unfold Hid; rw [take_snoc_it st k hlt]; simp
      have HM : Hid (mx (st.take (k + 1)) = max (mx (st.take k)) (st.getD k It.none).s.size) := by unfold Hid; rw [take_snoc_it st k hlt, mx_snoc]
      have HKO : Hid (-9223372036854775808 ≤ (st.getD k It.none).k ∧ (st.getD k It.none).k ≤ 9223372036854775807) := HKB.out (k + 1) _ (by rw [HT.out]; simp)
      have hsz : (st.getD k It.none).s.size ≤ 1099511627776 := by have := HMX.out (k + 1); rw [HM.out] at this; omega
      have hmk := HMX.out k
      generalize st.getD k It.none = x at c0 d2 HT HM HKO hsz
      obtain ⟨xk, xn, xs⟩ := x
      simp only at c0 d2 HT HM HKO hsz
      have hcb : ∀ u v, w.cell? ⟨b, u, none⟩ = some v → wr.cell? ⟨b, u, none⟩ = some v := fun u v h => by
        rw [HBW.out.cell (p := ⟨b, u, none⟩) (by exact cell_lt h)]; exact h
      have c0' := hcb _ _ c0
      have d2' := hcb _ _ d2
      have hbl2 := cell_lt c0'
      simp only at hbl2
      clear c0 d2 hc hcb
      have HLN : Hid (((st.take k).map It.k).length + [xk].length ≤ 4398046511104) := by have := HST.out; unfold Hid; simp; omega
      generalize hKS : (st.take k).map It.k = KS at HO HT HLN
      clear hKS
      go_wp2_with (at_builtin; refine wpList_append_k _ rfl _ _ 23 23 rfl Try.underlying23 _ _ KS [xk] q rfl rfl ?hOwn ?hByte ?hSrc ?hLen ?_)
      case hOwn => exact later_k HO.out ((Below.refl _ _).alloc (Nat.le_refl _) _)
      case hByte => intro c hc; rw [List.mem_singleton] at hc; subst hc; exact HKO.out
      case hSrc => exact src_k wr xk
      case hLen => exact HLN.out
      intro v' w3 q3 ho3 hg3 hr3 hn3
      obtain ⟨a3, cap3, rfl⟩ : ∃ a3 cap3, v' = .slice a3 (k + 1) cap3 := by
        have hl2 : (KS ++ [xk]).length = k + 1 := by rw [← HT.out]; simp; omega
        rw [← hl2]
        rcases ho3.2 with ⟨rfl, h0, rfl⟩ | ⟨g, cap', rfl, rfl, _⟩
        · simp at h0
        · exact ⟨_, cap', rfl⟩
      have HO3 : Hid (OwnK w3 (.slice a3 (k + 1) cap3) ((st.take (k + 1)).map It.k) q3) := by unfold Hid; rw [← HT.out] at ho3; exact ho3
      have HQ3 : Hid (∀ g, q3 = some g → w2.heap.size ≤ g) := fun g hg => by
        have := HBL.out.size
        rcases hr3 with rfl | rfl
        · exact HQ.out g hg
        · simp at hg; omega
      have HBL3 : Hid (Below w2.heap.size w2 w3) := (HBL.out.alloc HBL.out.size _).trans (grow_below hg3 (by have := HBL.out.size; simp; omega) HQ.out)
      have HBW3 : Hid (Below w.heap.size w w3) := below_on HB2.out HBL3.out
      have d3 : w3.cell? ⟨b, off + k * 3 + 2, none⟩ = some (.string xs) := by
        rw [← d2']
        have e1 : (wr.alloc (.cells #[.int .i64 xk] 3)).cell? ⟨b, off + k * 3 + 2, none⟩ = wr.cell? ⟨b, off + k * 3 + 2, none⟩ := ((Below.refl wr.heap.size wr).alloc (Nat.le_refl _) _).cell (p := ⟨b, _, none⟩) hbl2
        rw [← e1]
        exact World.cell?_of_block (hg3.block b (by simp; omega) (fun e => by
          have h1 := HQ.out b e.symm
          have h2 := HB2.out.size
          have h3 := HBI.out b off rfl hne
          omega))
      have HMM : Hid ((if ((xs.size : Nat) : Int) > ((mx (st.take k) : Nat) : Int) then ((xs.size : Nat) : Int) else ((mx (st.take k) : Nat) : Int)) = ((mx (st.take (k + 1)) : Nat) : Int)) := by
        unfold Hid; rw [HM.out]; split <;> omega
      clear ho3 hg3 hr3 hn3 c0' d2' hne
      go_wp2_with (refine wpList_maxN (by with_reducible rfl) _ _ 3 3 _ _ _ (by with_reducible rfl) (by rfl) (by rfl) HMM.out ?_)
      go_wp2
      go_roundw
      case rel => exact ⟨k + 1, q3, a3, cap3, by omega, by go_num, rfl, rfl, HO3.out, HQ3.out, HBL3.out⟩
      case measure => simp [intOf]; omega
    · obtain rfl : k = st.length := by omega
      obtain ⟨M, hM⟩ : ∃ M, mx (st.take st.length) = M := ⟨_, rfl⟩
      have hMl : M ≤ 1099511627776 := by rw [← hM]; exact HMX.out _
      rw [hM]
      have HFT : Hid (Fit st (M : Int)) := ⟨HFA.out, HSN.out, fun x hx => by
        rw [List.take_length] at hM
        have := mx_ge st x hx
        omega⟩
      have HK0 : Hid (OwnK wr (.slice a13 st.length cap13) (st.map It.k) q) := by have := HO.out; rw [List.take_length] at this; exact this
      have HX0 : Hid (Own wr (.slice ax N capx) (flat st) rx) := HOX.out.later HBL.out
      have hlen := HST.out
      clear hM HO HOX HBL HQ HCE HKB HMX HB2 hk hlt HFA HBI
      go_wp2_with fail
      refine (unpackOwn _ _ st M wr HFT.out HK0.out.ints HX0.out.bytes (by rw [HN.out]; omega) hlen (by omega) (by omega)).mono ?_
      rintro e w4 ⟨v4, r4, p4, rfl, ho4, hb4⟩
      obtain ⟨a4, cap4, rfl, -, -⟩ := ho4.shape
      have HI4 : Hid (OwnI w4 (.slice a4 st.length cap4) st r4) := ho4
      have HK4 : Hid (OwnK w4 (.slice a13 st.length cap13) (st.map It.k) q) := later_k HK0.out hb4
      have HX4 : Hid (Own w4 (.slice ax N capx) (flat st) rx) := HX0.out.later hb4
      have HB4 : Hid (Below w.heap.size w w4) := below_on HBW.out hb4
      clear ho4 hb4 HK0 HX0 HBW
      go_wp2_with (at_builtin; refine wpList_append_row _ rfl _ _ 24 24 rfl Try.underlying24 _ _ [] (flat st) (some (w4.heap.size + 1)) rfl rfl ?hOwn ?hByte ?hSrc ?hLen ?_)
      case hOwn =>
        have := Own.empty (w4.alloc (.cells #[.int .i64 0, .int .i64 p4] 27)) 5
        rw [show (w4.alloc (.cells #[.int .i64 0, .int .i64 p4] 27)).heap.size = w4.heap.size + 1 by simp] at this
        exact this
      case hByte => exact HX4.out.byte
      case hSrc => exact src_of Try.underlying24 ((HX4.out.later (((Below.refl _ _).alloc (Nat.le_refl _) _).alloc (by simp) _)).bytes)
      case hLen => have := HN.out; simp; omega
      intro v5 w5 r5 ho5 hg5 hr5 hn5
      have HB45 : Hid (Below w4.heap.size w4 w5) := (((Below.refl _ _).alloc (Nat.le_refl _) _).alloc (by simp) _).trans (grow_below hg5 (by simp; omega) (by intro g hg; simp at hg; omega))
      have HR5 : Hid (∀ g, r5 = some g → w4.heap.size + 1 ≤ g) := fun g hg => by
        rcases hr5 with rfl | rfl
        · simp at hg; omega
        · simp at hg; omega
      obtain ⟨a5, cap5, rfl⟩ := ho5.isSlice
      rw [HN.out] at ho5 ⊢
      have HO5 : Hid (Own w5 (.slice a5 N cap5) (flat st) r5) := ho5
      have hs5 : w4.heap.size + 2 ≤ w5.heap.size := by have := hg5.size; simpa using this
      have s17 : w5.cell? ⟨w4.heap.size, 0, none⟩ = some (.int .i64 0) := by
        rw [World.cell?_of_block (hg5.block w4.heap.size (by simp; omega) (by simp))]
        simp
      clear ho5 hg5 hr5 hn5
      go_wp2_with (at_builtin; refine wpList_append_row _ rfl _ _ 24 24 rfl Try.underlying24 _ _ (flat st) [0] r5 rfl rfl ?hOwn ?hByte ?hSrc ?hLen ?_)
      case hOwn => exact HO5.out.later ((Below.refl _ _).alloc (Nat.le_refl _) _)
      case hByte => simp
      case hSrc => exact src_zero w5
      case hLen => have := HN.out; simp; omega
      intro v6 w6 r6 ho6 hg6 hr6 hn6
      have HB56 : Hid (Below (w4.heap.size + 1) w5 w6) := (((Below.refl _ _).alloc (by omega) _)).trans (grow_below hg6 (by simp; omega) HR5.out)
      have HB46 : Hid (Below w4.heap.size w4 w6) := HB45.out.trans (HB56.out.mono (by omega))
      obtain ⟨a6, cap6, rfl⟩ := ho6.isSlice
      have hl6 : (flat st ++ [0]).length = N + 1 := by have := HN.out; simp; omega
      rw [hl6] at ho6 ⊢
      have HO6 : Hid (Own w6 (.slice a6 (N + 1) cap6) (flat st ++ [0]) r6) := ho6
      clear hl6
      have t17 : w6.cell? ⟨w4.heap.size, 0, none⟩ = some (.int .i64 0) := by
        rw [HB56.out.cell (p := ⟨_, _, none⟩) (by simp)]; exact s17
      clear ho6 hg6 hr6 hn6 s17 HO5 HR5 HB45 HB56
      go_wp2_with fail
      refine (unpackMore _ _ st M w6 HFT.out ((later_k HK4.out HB46.out).ints) HO6.out.bytes (by rw [HN.out]; omega) hlen (by omega) (by omega)).mono ?_
      rintro e w7 ⟨v7, rfl, hb7⟩
      rw [HN.out]
      have HB47 : Hid (Below w4.heap.size w4 w7) := below_on HB46.out hb7
      have u17 : w7.cell? ⟨w4.heap.size, 0, none⟩ = some (.int .i64 0) := by
        rw [hb7.cell (p := ⟨_, _, none⟩) (by exact cell_lt t17)]; exact t17
      have hs7 : w4.heap.size < w7.heap.size := cell_lt u17
      clear hb7 t17 HO6 HB46
      go_wp2_with fail
      have HB4A : Hid (Below w4.heap.size w4 (w7.alloc (.cells #[.int .i64 13, .int .i64 N] 27))) := HB47.out.alloc HB47.out.size _
      refine (sameItems _ _ st _ ((HI4.out.itemsAt HSN.out).later HB4A.out) (HI.out.later (below_on HB4.out HB4A.out))).mono ?_
      rintro e w10 ⟨rfl, n10, rfl⟩
      have HBD : Hid (Below w.heap.size w ((w7.alloc (.cells #[.int .i64 13, .int .i64 N] 27)).drewN n10)) := below_drewN (below_on HB4.out HB4A.out) _
      have HBE : Hid (Below w4.heap.size w4 ((w7.alloc (.cells #[.int .i64 13, .int .i64 N] 27)).drewN n10)) := below_drewN HB4A.out _
      by_cases hN0 : 0 < N
      · have hNe : ((N : Nat) : Int) > 0 := by omega
        obtain ⟨n, hn⟩ : ∃ n, N = n + 1 := ⟨N - 1, by omega⟩
        have e1 : ((N : Nat) : Int) - 1 = (n : Int) := by omega
        have hle : n ≤ N := by omega
        have hnc : n ≤ capx := by omega
        have HXE : Hid (BytesAt w4 (.slice ax n capx) (flat st).dropLast) := by
          have := (HX4.out.bytes).take n (by have := HN.out; omega)
          unfold Hid
          rw [List.dropLast_eq_take, HN.out, hn]
          exact this
        have HNE : Hid (flat st ≠ []) := fun h0 => by have := HN.out; rw [h0] at this; simp at this; omega
        clear hn
        go_wp2_with fail
        refine (unpackLess _ _ st M _ HFT.out HNE.out ((later_k HK4.out HBE.out).ints) (HXE.out.later HBE.out) (by rw [HN.out]; omega) hlen (by omega) (by omega)).mono ?_
        rintro e w11 ⟨v11, p11, rfl, hp11, hb11⟩
        rw [HN.out] at hp11
        have hp11' : ((p11 : Nat) : Int) < (N : Int) := by omega
        have HB11 : Hid (Below w.heap.size w (w11.alloc (.cells #[.int .i64 10, .int .i64 p11] 27))) := (below_on HBD.out hb11).alloc (below_on HBD.out hb11).size _
        clear hb11 e1
        go_wp2_with fail
        refine (unpackBack _ _ ks most l _ (HK.out.later HB11.out) (HL.out.later HB11.out) (by omega) (by omega) hm1 hm2).mono ?_
        rintro e w8 ⟨v8, r8, ts, x8, p8, rfl, ho8, hx8, hb8⟩
        obtain ⟨a8, cap8, rfl, -, -⟩ := ho8.shape
        have HB8 : Hid (Below w.heap.size w w8) := below_on HB11.out hb8
        have HO8 : Hid (OwnI w8 (.slice a8 ts.length cap8) ts r8) := ho8
        clear ho8 hb8
        rcases hx8 with ⟨hx, rfl⟩ | ⟨rfl, hbk⟩
        · have hx' : (x8 != 0) = true := by simpa using hx
          clear hx
          go_wp2
          go_ret
          exact ⟨rfl, HB8.out.alloc HB8.out.size _⟩
        · have HBK : Hid (Back ts l ks.length) := hbk
          clear hbk
          go_wp2_with fail
          refine (packAny _ ts _ ((HO8.out.itemsAt HBK.out.n).later ((Below.refl _ _).alloc (Nat.le_refl _) _)) (by have := HBK.out.b; omega)).mono ?_
          rintro e w9 ⟨v9, r9, rfl, ho9, -, hb9⟩
          obtain ⟨hp1, hp2⟩ := packed_good ts HBK.out.f
          rw [hp1, HBK.out.e] at ho9
          rw [hp2]
          have HO9 : Hid (Own w9 v9 l r9) := ho9
          have HB9 : Hid (Below w.heap.size w w9) := below_on (HB8.out.alloc HB8.out.size _) hb9
          clear hb9 ho9 hp1 hp2
          go_wp2_with fail
          refine (sameYes _ _ l w9 HO9.out.bytes (HL.out.later HB9.out)).mono ?_
          rintro e w10 ⟨rfl, n10, rfl⟩
          go_wp2
          go_ret
          exact ⟨rfl, below_drewN HB9.out _⟩
      · obtain rfl : N = 0 := by omega
        go_wp2_with fail
        refine (unpackBack _ _ ks most l _ (HK.out.later HBD.out) (HL.out.later HBD.out) (by omega) (by omega) hm1 hm2).mono ?_
        rintro e w8 ⟨v8, r8, ts, x8, p8, rfl, ho8, hx8, hb8⟩
        obtain ⟨a8, cap8, rfl, -, -⟩ := ho8.shape
        have HB8 : Hid (Below w.heap.size w w8) := below_on HBD.out hb8
        have HO8 : Hid (OwnI w8 (.slice a8 ts.length cap8) ts r8) := ho8
        clear ho8 hb8
        rcases hx8 with ⟨hx, rfl⟩ | ⟨rfl, hbk⟩
        · have hx' : (x8 != 0) = true := by simpa using hx
          clear hx
          go_wp2
          go_ret
          exact ⟨rfl, HB8.out.alloc HB8.out.size _⟩
        · have HBK : Hid (Back ts l ks.length) := hbk
          clear hbk
          go_wp2_with fail
          refine (packAny _ ts _ ((HO8.out.itemsAt HBK.out.n).later ((Below.refl _ _).alloc (Nat.le_refl _) _)) (by have := HBK.out.b; omega)).mono ?_
          rintro e w9 ⟨v9, r9, rfl, ho9, -, hb9⟩
          obtain ⟨hp1, hp2⟩ := packed_good ts HBK.out.f
          rw [hp1, HBK.out.e] at ho9
          rw [hp2]
          have HO9 : Hid (Own w9 v9 l r9) := ho9
          have HB9 : Hid (Below w.heap.size w w9) := below_on (HB8.out.alloc HB8.out.size _) hb9
          clear hb9 ho9 hp1 hp2
          go_wp2_with fail
          refine (sameYes _ _ l w9 HO9.out.bytes (HL.out.later HB9.out)).mono ?_
          rintro e w10 ⟨rfl, n10, rfl⟩
          go_wp2
          go_ret
          exact ⟨rfl, below_drewN HB9.out _⟩
end Go.Proofs.Ytjefbcphefckiac
