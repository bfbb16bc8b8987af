import Derived.Test.YtmcfcbonmmifeaaDoorJe
/-! dedupe: areProds, New. -/
namespace Go.Proofs.YtmcfcbonmmifeaaDoor
open Go.RowKit Go.Maps Plain
set_option linter.unusedVariables false
set_option linter.unusedSimpArgs false

theorem riseB_cons {L : List Pr} {k : Nat} (h : k < L.length) (a : Int) : riseB a (L.drop k) = (decide (a < (L.getD k Pr.zero).pid) && (L.getD k Pr.zero).rightB && riseB (L.getD k Pr.zero).pid (L.drop (k + 1))) := by
  rw [List.drop_eq_getElem_cons h, riseB]
  simp [h]
theorem rightB_eq (p : Pr) : p.rightB = (okNum p.pid p.seq && okOff p.off) := by
  unfold Pr.rightB okNum okOff
  simp only [Bool.and_assoc]
set_option maxHeartbeats 2000000 in
theorem areProdsOf (v : Value) (ps : List Pr) (w : World) (h : PrsAt w v ps) : Calls Tryd.prog 10 #[v] w fun e w' => e = .returned (.bool (okL ps)) ∧ Below w.heap.size w w' := by
  obtain ⟨a, cap, rfl, hcl, hok, hcells⟩ := h
  have HC : Hid (∀ u m, Below w.heap.size w u → m < ps.length → ∃ b off, a = some ⟨b, off, none⟩ ∧ Pr.CellsAt u b (off + m * 3) (ps.getD m Pr.zero)) := fun u m hu hm => by
    obtain ⟨b, off, e, hc⟩ := hcells (by intro e; rw [e] at hm; simp at hm)
    exact ⟨b, off, e, (hc m hm).block (hu.block _ (hc m hm).lt)⟩
  clear hcells hok
  by_cases h64 : (64 : Int) < (ps.length : Int)
  · have HE : Hid (okL ps = false) := by
      unfold Hid okL
      rw [decide_eq_false (by omega)]; rfl
    go_enter Tryd.func10, Tryd.ntmps10
    go_wp2
    go_ret
    exact ⟨by rw [HE.out]; rfl, Below.refl _ _⟩
  · have HE : Hid (okL ps = riseB 0 ps) := by
      unfold Hid okL
      rw [decide_eq_true (by omega)]; rfl
    go_enter Tryd.func10, Tryd.ntmps10
    go_wp2
    go_loopw [3, 11] (fun s3 i wr => ∃ (k : Nat) (z : Int), k ≤ ps.length ∧ s3 = .int .i64 z ∧ i = .int .i64 k ∧ Hid (riseB 0 ps = riseB z (ps.drop k)) ∧ Hid (Below w.heap.size w wr))
      (fun _ i _ => ps.length - (intOf i).toNat)
    case atStart => exact ⟨0, 0, Nat.zero_le _, rfl, rfl, rfl, Below.refl _ _⟩
    case round =>
      obtain ⟨k, z, hk, rfl, rfl, HR, HB⟩ := hrel
      by_cases hlt : k < ps.length
      · obtain ⟨b, off, rfl, hc⟩ := HC.out wr k HB.out hlt
        have HRS := riseB_cons hlt z
        generalize ps.getD k Pr.zero = x at hc HRS
        rw [rightB_eq] at HRS
        have HR2 : Hid (riseB 0 ps = (decide (z < x.pid) && (okNum x.pid x.seq && okOff x.off) && riseB x.pid (ps.drop (k + 1)))) := HR.out.trans HRS
        obtain ⟨xp, xs, xo⟩ := x
        obtain ⟨c0, c1, c2⟩ := hc
        simp only at c0 c1 c2 HR2
        clear HRS HR
        have hki : (k : Int) < (ps.length : Int) := by omega
        have HB2 : Hid (∀ o, Below w.heap.size w (wr.alloc o)) := fun o => below_step HB.out ((Below.refl _ _).alloc (Nat.le_refl _) _)
        by_cases hz : xp ≤ z
        · have HF : Hid (riseB 0 ps = false) := by
            rw [Hid, HR2.out, decide_eq_false (by omega)]; rfl
          clear HR2
          go_wp2
          go_ret
          exact ⟨by rw [HE.out, HF.out]; rfl, HB2.out _⟩
        · cases hn : okNum xp xs with
          | false =>
            have HF : Hid (riseB 0 ps = false) := by
              rw [Hid, HR2.out, hn]; simp
            clear HR2
            go_wp2_with fail
            refine (isNumberedOf xp xs _).mono ?_
            rintro e w2 ⟨rfl, rfl⟩
            rw [hn]
            go_wp2
            go_ret
            exact ⟨by rw [HE.out, HF.out]; rfl, HB2.out _⟩
          | true =>
            cases ho : okOff xo with
            | false =>
              have HF : Hid (riseB 0 ps = false) := by
                rw [Hid, HR2.out, ho]; simp
              clear HR2
              go_wp2_with fail
              refine (isNumberedOf xp xs _).mono ?_
              rintro e w2 ⟨rfl, rfl⟩
              rw [hn]
              go_wp2_with fail
              refine (isOffsetOf xo _).mono ?_
              rintro e w2 ⟨rfl, rfl⟩
              rw [ho]
              go_wp2
              go_ret
              exact ⟨by rw [HE.out, HF.out]; rfl, HB2.out _⟩
            | true =>
              have HF : Hid (riseB 0 ps = riseB xp (ps.drop (k + 1))) := by
                rw [Hid, HR2.out, ho, hn, decide_eq_true (by omega)]; simp
              clear HR2
              go_wp2_with fail
              refine (isNumberedOf xp xs _).mono ?_
              rintro e w2 ⟨rfl, rfl⟩
              rw [hn]
              go_wp2_with fail
              refine (isOffsetOf xo _).mono ?_
              rintro e w2 ⟨rfl, rfl⟩
              rw [ho]
              go_wp2
              go_roundw
              case rel => exact ⟨k + 1, xp, by omega, rfl, by go_num, HF.out, HB2.out _⟩
              case measure => simp [intOf]; omega
      · obtain rfl : k = ps.length := by omega
        have HF : Hid (riseB 0 ps = true) := by
          rw [Hid, HR.out, List.drop_length]; rfl
        clear HR HC
        go_wp2
        go_ret
        exact ⟨by rw [HE.out, HF.out]; rfl, HB.out⟩

theorem layP_snoc {L : List Pr} {p : Pr} (h : Rise (L ++ [p])) : layP L p = L ++ [p] := by
  have hr : Rise L := (List.pairwise_append.mp h).1
  refine rise_ext (rise_layP hr p) h fun x => ?_
  rw [mem_layP, List.mem_append, List.mem_singleton]
  constructor
  · rintro (h1 | ⟨h1, _⟩)
    · exact .inr h1
    · exact .inl h1
  · rintro (h1 | h1)
    · right
      have := (List.pairwise_append.mp h).2.2 x h1 p (by simp)
      exact ⟨h1, by omega⟩
    · exact .inl h1
theorem takeP {L : List Pr} {k : Nat} (h : k < L.length) : L.take (k + 1) = L.take k ++ [L.getD k Pr.zero] := by
  rw [List.take_add_one, List.getD_eq_getElem?_getD, List.getElem?_eq_getElem h]
  simp
theorem rise_take {L : List Pr} (h : Rise L) (k : Nat) : Rise (L.take k) := List.Pairwise.sublist (List.take_sublist k L) h
/-- A new table. -/
structure NewAt (w w' : World) (t : Nat) (m : Option Nat) (L : List Pr) : Prop where
  tab : TabAt w' t m L
  tb : w.heap.size ≤ t
  mb : ∀ b, m = some b → w.heap.size ≤ b
  below : Below w.heap.size w w'
set_option maxHeartbeats 2000000 in
theorem newOf (v : Value) (ps : List Pr) (w : World) (h : PrsAt w v ps) (hT : TabL ps) : Calls Tryd.prog 4 #[v] w fun e w' => ∃ t m, e = .returned (.tuple #[.pointer (some ⟨t, 0, none⟩), .int .i64 0]) ∧ NewAt w w' t m ps := by
  have HA : Hid (∀ u, Below w.heap.size w u → Calls Tryd.prog 10 #[v] u fun e w' => e = .returned (.bool true) ∧ Below u.heap.size u w') := fun u hu => by
    have := areProdsOf v ps u (h.later hu)
    rwa [(okL_iff ps).mpr hT] at this
  obtain ⟨a, cap, rfl, hcl, hok, hcells⟩ := h
  have HC : Hid (∀ u m, Below w.heap.size w u → m < ps.length → ∃ b off, a = some ⟨b, off, none⟩ ∧ Pr.CellsAt u b (off + m * 3) (ps.getD m Pr.zero)) := fun u m hu hm => by
    obtain ⟨b, off, e, hc⟩ := hcells (by intro e; rw [e] at hm; simp at hm)
    exact ⟨b, off, e, (hc m hm).block (hu.block _ (hc m hm).lt)⟩
  clear hcells hok
  go_enter Tryd.func4, Tryd.ntmps4
  go_wp2_with fail
  refine (HA.out _ (Below.refl _ _)).mono ?_
  rintro e w1 ⟨rfl, hb1⟩
  have HB1 : Hid (Below w.heap.size w w1) := hb1
  have hs1 := hb1.size
  clear hb1 HA
  go_wp2
  go_loopw [14] (fun i wr => ∃ (k : Nat) (m : Option Nat), k ≤ ps.length ∧ i = .int .i64 k ∧ Hid (NewAt w wr w1.heap.size m (ps.take k)))
    (fun i _ => ps.length - (intOf i).toNat)
  case atStart =>
    refine ⟨0, none, Nat.zero_le _, rfl, ⟨⟨World.cell?_alloc_at _ _ _ _ rfl, World.frozen?_alloc_at _ _ _ _ rfl, .inl ⟨rfl, rfl⟩, TabL.nil⟩, hs1, by simp, below_step HB1.out ((Below.refl _ _).alloc (Nat.le_refl _) _)⟩⟩
  case round =>
    obtain ⟨k, m, hk, rfl, HN⟩ := hrel
    by_cases hlt : k < ps.length
    · obtain ⟨b, off, rfl, hc⟩ := HC.out wr k HN.out.below hlt
      have htk := takeP hlt
      have hlay : layP (ps.take k) (ps.getD k Pr.zero) = ps.take (k + 1) := by
        rw [htk]
        exact layP_snoc (by rw [← htk]; exact rise_take hT.rise _)
      have hR : (ps.getD k Pr.zero).Right := hT.right _ (by simp [hlt])
      generalize ps.getD k Pr.zero = x at hc hlay hR
      obtain ⟨xp, xs, xo⟩ := x
      obtain ⟨c0, c1, c2⟩ := hc
      simp only at c0 c1 c2
      have hki : (k : Int) < (ps.length : Int) := by omega
      have HKP : Hid (Calls Tryd.prog 11 #[.pointer (some ⟨w1.heap.size, 0, none⟩), .agg #[.int .i64 xp, .int .i64 xs, .int .i64 xo]] (wr.alloc (.cells #[.int .i64 xp, .int .i64 xs, .int .i64 xo] 43)) fun e w' => e = .returned (.tuple #[]) ∧ ∃ m', NewAt w w' w1.heap.size m' (ps.take (k + 1))) := by
        have hb := (Below.refl _ wr).alloc (Nat.le_refl _) (.cells #[.int .i64 xp, .int .i64 xs, .int .i64 xo] 43)
        refine (keepOf w1.heap.size m (ps.take k) ⟨xp, xs, xo⟩ _ (HN.out.tab.later hb) hR (.inr (by rw [List.length_take]; have := hT.len; omega))).mono ?_
        rintro e w' ⟨rfl, m', h1, h2, h3⟩
        refine ⟨rfl, m', ⟨by rw [← hlay]; exact h1, hs1, ?_, (below_step HN.out.below hb).trans (h2.below (by have := HN.out.below.size; simp; omega) ?_)⟩⟩
        · rcases h3 with rfl | ⟨_, b, rfl, hbb⟩
          · exact HN.out.mb
          · intro b' e; cases e; have := HN.out.below.size; simp at hbb; omega
        · rintro x (rfl | e)
          · exact hs1
          · exact HN.out.mb _ e
      clear hlay hR htk
      go_wp2_with fail
      refine HKP.out.mono ?_
      rintro e w2 ⟨rfl, m', hn'⟩
      have HN2 : Hid (NewAt w w2 w1.heap.size m' (ps.take (k + 1))) := hn'
      clear hn'
      go_wp2
      go_roundw
      case rel => exact ⟨k + 1, m', by omega, by go_num, HN2.out⟩
      case measure => simp [intOf]; omega
    · obtain rfl : k = ps.length := by omega
      clear HC
      go_wp2
      go_ret2
      refine ⟨_, m, rfl, ?_⟩
      have := HN.out
      rwa [List.take_length] at this
theorem newBad (v : Value) (ps : List Pr) (w : World) (h : PrsAt w v ps) (hT : ¬ TabL ps) : Calls Tryd.prog 4 #[v] w fun e w' => e = .returned (.tuple #[.pointer none, .int .i64 92]) ∧ Below w.heap.size w w' := by
  have HA : Hid (∀ u, Below w.heap.size w u → Calls Tryd.prog 10 #[v] u fun e w' => e = .returned (.bool false) ∧ Below u.heap.size u w') := fun u hu => by
    have := areProdsOf v ps u (h.later hu)
    rwa [show okL ps = false from by rw [Bool.eq_false_iff]; exact fun e => hT ((okL_iff ps).mp e)] at this
  go_enter Tryd.func4, Tryd.ntmps4
  go_wp2_with fail
  refine (HA.out _ (Below.refl _ _)).mono ?_
  rintro e w1 ⟨rfl, hb1⟩
  have HB1 : Hid (Below w.heap.size w w1) := hb1
  clear hb1
  go_wp2
  go_ret2
  exact ⟨rfl, HB1.out⟩
end Go.Proofs.YtmcfcbonmmifeaaDoor
