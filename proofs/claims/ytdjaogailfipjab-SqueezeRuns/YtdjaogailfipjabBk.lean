import Derived.Test.YtdjaogailfipjabHd
namespace Go.Proofs.Ytdjaogailfipjab
open Go.RowKit Plain
set_option linter.unusedVariables false
set_option linter.unusedSimpArgs false

theorem TRd.drewN {w : World} {sv : Value} {ts : List Tg} (h : TRd w sv ts) (n : Nat) : TRd (w.drewN n) sv ts := h.of_cells fun _ _ _ hu => hu

theorem TRow.after {base : Nat} {w w' : World} {v : Value} {ts : List Tk} {r : Option Nat} (h : TRow base w v ts r) (k : Below w.heap.size w w') : TRow base w' v ts r := h.kept (below_grow k none) (by simp)

theorem same_c {ts ss : List Tk} (hc : ts.map Tk.c = ss.map Tk.c) : (ts.map Tk.g).length = (ss.map Tk.g).length ∧ ∀ k (h1 : k < (ts.map Tk.g).length) (h2 : k < (ss.map Tk.g).length), (ts.map Tk.g)[k].l = (ss.map Tk.g)[k].l ∧ (ts.map Tk.g)[k].d = (ss.map Tk.g)[k].d ∧ (ts.map Tk.g)[k].n = (ss.map Tk.g)[k].n := by
  have hlen : ts.length = ss.length := by have := congrArg List.length hc; simpa using this
  refine ⟨by simpa using hlen, fun k h1 h2 => ?_⟩
  rw [List.length_map] at h1 h2
  have e : (ts.map Tk.c)[k]? = (ss.map Tk.c)[k]? := by rw [hc]
  rw [List.getElem?_map, List.getElem?_map, List.getElem?_eq_getElem h1, List.getElem?_eq_getElem h2] at e
  simp only [Option.map_some, Option.some.injEq] at e
  rw [List.getElem_map, List.getElem_map]
  generalize ts[k] = t at *
  generalize ss[k] = s at *
  cases t using Tk.elim <;> cases s using Tk.elim <;> simp_all [Tk.c_lit, Tk.c_mat, Tk.g_lit, Tk.g_mat]

set_option maxHeartbeats 1000000 in
set_option maxRecDepth 1000000 in
theorem backLong (v : Value) (l : List Nat) (w : World) (h : BytesAt w v l) (hl : 4096 < l.length) :
    Calls Try.prog 8 #[v] w fun e w' => e = .returned (.bool true) ∧ Below w.heap.size w w' := by
  have HE : Hid (Calls Try.prog 11 #[v] w fun e w' => e = .returned (.tuple #[.slice none 0 0, .int .i64 2]) ∧ w' = w) := encodeLong v l w h hl
  have HT : Hid (Calls Try.prog 18 #[v] w fun e w' => e = .returned (.tuple #[.slice none 0 0, .int .i64 2]) ∧ w' = w) := tokensLong v l w h hl
  obtain ⟨a, cap, rfl, hlc, hcm, -, -⟩ := h
  unfold maxLen at hcm
  go_enter Try.func8, Try.ntmps8
  go_wp2_with fail
  refine HE.out.mono ?_
  rintro e w1 ⟨rfl, rfl⟩
  go_wp2_with fail
  refine HT.out.mono ?_
  rintro e w2 ⟨rfl, rfl⟩
  go_wp2_with fail
  refine (headOf w2).mono ?_
  rintro e w3 ⟨rfl, hb⟩
  have HB : Hid (Below w2.heap.size w2 w3) := hb
  clear hb
  go_wp2
  go_ret
  exact ⟨rfl, HB.out⟩

/-- Bound, of any length of a text. -/
theorem boundLen (n : Nat) (w : World) (h : n ≤ 4096) : Calls Try.prog 23 #[.int .i64 n] w fun e w' => e = .returned (.int .i64 (if n = 0 then 1 else (uv n).length + (uv (2 * n)).length + n : Nat)) ∧ Below w.heap.size w w' := by
  by_cases h0 : n = 0
  · subst h0
    refine (boundZero w).mono ?_
    rintro e w' ⟨rfl, rfl⟩
    exact ⟨rfl, Below.refl _ _⟩
  · rw [if_neg h0]
    exact boundIn n w (by omega) h

theorem blk_bound {l : List Nat} (hl : l.length ≤ 4096) {ts : List Tk} (h : PreP l ts l.length) : 1 ≤ (blk l.length ts).length ∧ (blk l.length ts).length ≤ (if l.length = 0 then 1 else (uv l.length).length + (uv (2 * l.length)).length + l.length) := by
  have h1 := uv_pos l.length
  refine ⟨by unfold blk; rw [List.length_append]; omega, ?_⟩
  by_cases h0 : l.length = 0
  · rw [if_pos h0]
    have hts : ts = [] := by have := h.count; exact List.length_eq_zero_iff.mp (by omega)
    subst hts
    rw [h0]
    show (uv 0 ++ []).length ≤ 1
    rw [uv_lt (by omega)]; simp
  · rw [if_neg h0]
    exact h.bound hl (by omega)

set_option maxHeartbeats 4000000 in
set_option maxRecDepth 1000000 in
theorem backOf (v : Value) (l : List Nat) (w : World) (h : BytesAt w v l) (hl : l.length ≤ 4096) :
    Calls Try.prog 8 #[v] w fun e w' => e = .returned (.bool true) ∧ Below w.heap.size w w' := by
  have HV : Hid (BytesAt w v l) := h
  have HE := encodeOf v l w h hl
  obtain ⟨a, cap, rfl, hlc, hcm, -, -⟩ := h
  unfold maxLen at hcm
  go_enter Try.func8, Try.ntmps8
  go_wp2_with fail
  refine HE.mono ?_
  rintro e w1 ⟨v1, r1, ts1, rfl, hp1, ho1, hb1, -⟩
  have HP1 : Hid (PreP l ts1 l.length) := hp1
  obtain ⟨B, hB⟩ : ∃ B, blk l.length ts1 = B := ⟨_, rfl⟩
  have HBk : Hid (blk l.length ts1 = B) := hB
  rw [hB] at ho1
  have HO1 : Hid (Own w1 v1 B r1) := ho1
  have HB1 : Hid (Below w.heap.size w w1) := hb1
  obtain ⟨a1, c1, rfl⟩ := ho1.isSlice
  obtain ⟨hbb1, hbb2⟩ := blk_bound hl hp1
  rw [hB] at hbb1 hbb2
  have hBm := ho1.len
  unfold maxLen at hBm
  clear hp1 ho1 hb1 hB HE
  go_wp2_with fail
  refine (tokensAny _ l w1 (HV.out.later HB1.out) hl).mono ?_
  rintro e w2 ⟨tv, ts2, r2, rfl, hp2, ht2, hb2⟩
  have HP2 : Hid (PreP l ts2 l.length) := hp2
  have HT2 : Hid (TRow (w1.heap.size + 1) w2 tv ts2 r2) := ht2
  have HB2 : Hid (Below w1.heap.size w1 w2) := hb2
  clear hp2 ht2 hb2
  obtain ⟨Z, hZ⟩ : ∃ Z, (if l.length = 0 then 1 else (uv l.length).length + (uv (2 * l.length)).length + l.length) = Z := ⟨_, rfl⟩
  have HBo : Hid (∀ w, Calls Try.prog 23 #[.int .i64 l.length] w fun e w' => e = .returned (.int .i64 (Z : Nat)) ∧ Below w.heap.size w w') := fun w => by
    have := boundLen l.length w hl
    rwa [hZ] at this
  rw [hZ] at hbb2
  clear hZ
  go_wp2_with fail
  refine (HBo.out w2).mono ?_
  rintro e w3 ⟨rfl, hb3⟩
  have HB3 : Hid (Below w2.heap.size w2 w3) := hb3
  have HBw3 : Hid (Below w1.heap.size w1 w3) := HB2.out.trans (hb3.mono HB2.out.size)
  clear hb3
  go_wp2_with fail
  have HDk : Hid (DecOk B l) := ⟨hl, ts1, HP1.out, HBk.out.symm⟩
  have HSol : Hid (Sol B l.length ts1) := by
    have := HP1.out.sol hl
    rw [HBk.out] at this
    exact this
  have HBlk2 : Hid (blk l.length ts2 = B) := by
    unfold Hid
    rw [← HBk.out]
    exact blk_c (HP2.out.unique HP1.out)
  have HSnd : Hid (tlen (ts2.map Tk.g) 0 = (l.length, 0) ∧ expd (ts2.map Tk.g) = l) := by
    have := HP2.out.sound hl
    rwa [List.take_length] at this
  have HF2 : Hid (∀ t ∈ ts2, t.fits) := HP2.out.fits hl
  have hBm2 : B.length ≤ 10000 := by
    have h1 := uv_len10 (v := l.length) (by omega)
    have h2 := uv_len10 (v := 2 * l.length) (by omega)
    have h3 := (blk_bound hl HP1.out).2
    rw [HBk.out] at h3
    split at h3 <;> omega
  refine (decodeOf _ B w3 (HO1.out.later HBw3.out).bytes).mono ?_
  rintro e w4 ⟨hb4, hres⟩
  rcases hres with ⟨x, v4, r4, rfl, hd, ho4, -⟩ | ⟨-, hno⟩
  case inr => exact absurd HDk.out (hno l)
  obtain rfl : x = l := hd.unique HDk.out
  have HO4 : Hid (Own w4 v4 x r4) := ho4
  have HB4 : Hid (Below w3.heap.size w3 w4) := hb4
  obtain ⟨a4, c4, rfl⟩ := ho4.isSlice
  clear hd ho4 hb4
  have HT4 : Hid (TRow (w1.heap.size + 1) w4 tv ts2 r2) := (HT2.out.after HB3.out).after HB4.out
  go_wp2_with fail
  have HX5 : Hid (Calls Try.prog 21 #[tv] w4 fun e w' => ∃ g cap, e = .returned (.tuple #[.slice (some ⟨g, 0, none⟩) x.length cap, .int .i64 0]) ∧ Own w' (.slice (some ⟨g, 0, none⟩) x.length cap) x (some g) ∧ w4.heap.size ≤ g ∧ Below w4.heap.size w4 w') := by
    refine (expandOf tv (ts2.map Tk.g) w4 (HT4.out.rd HF2.out) (by rw [HSnd.out.1]) (by rw [HSnd.out.1]; exact hl)).mono ?_
    rintro e w' ⟨g, cap', h1, h2, h3, h4, _⟩
    rw [HSnd.out.2] at h1 h2
    exact ⟨g, cap', h1, h2, h3, h4⟩
  refine HX5.out.mono ?_
  rintro e w5 ⟨g5, c5, rfl, ho5, -, hb5⟩
  have HO5 : Hid (Own w5 (.slice (some ⟨g5, 0, none⟩) x.length c5) x (some g5)) := ho5
  have HB5 : Hid (Below w4.heap.size w4 w5) := hb5
  have HBw5 : Hid (Below w1.heap.size w1 w5) := (HBw3.out.trans (HB4.out.mono HBw3.out.size)).trans (hb5.mono (Nat.le_trans HBw3.out.size HB4.out.size))
  clear ho5 hb5
  go_wp2_with fail
  refine (readAny _ B w5 (HO1.out.later HBw5.out).bytes).mono ?_
  rintro e w6 ⟨hb6, hres⟩
  rcases hres with ⟨rv, ts6, r6, n6, rfl, hs6, ht6⟩ | ⟨-, hno⟩
  case inr => exact absurd HSol.out (hno _ _)
  have HC6 : Hid (ts6.map Tk.c = ts2.map Tk.c) := (hs6.unique HSol.out).2.trans (HP1.out.unique HP2.out)
  have HF6 : Hid (∀ t ∈ ts6, t.fits) := (sol_fits ts6 0 n6 (by omega) hs6.1).1
  have HT6 : Hid (TRow w5.heap.size w6 rv ts6 r6) := ht6
  have HB6 : Hid (Below w5.heap.size w5 w6) := hb6
  clear hs6 ht6 hb6
  have HT62 : Hid (TRow (w1.heap.size + 1) w6 tv ts2 r2) := (HT4.out.after HB5.out).after HB6.out
  go_wp2_with fail
  refine (writeOf _ x.length tv ts2 r2 w6 HT62.out HSnd.out.1).mono ?_
  rintro e w7 ⟨v7, r7, rfl, ho7, hb7, -⟩
  rw [HBlk2.out] at ho7
  have HO7 : Hid (Own w7 v7 B r7) := ho7
  have HB7 : Hid (Below w6.heap.size w6 w7) := hb7
  obtain ⟨a7, c7, rfl⟩ := ho7.isSlice
  clear ho7 hb7
  have HBw7 : Hid (Below w1.heap.size w1 w7) := by
    have h6 := HBw5.out.trans (HB6.out.mono HBw5.out.size)
    exact h6.trans (HB7.out.mono h6.size)
  have HFin : Hid (Below w.heap.size w w7) := HB1.out.trans (HBw7.out.mono HB1.out.size)
  have HQ1 : Hid (BytesAt w7 (.slice a4 x.length c4) x) := (((HO4.out.later HB5.out).later HB6.out).later HB7.out).bytes
  have HQ2 : Hid (BytesAt w7 (.slice a x.length cap) x) := HV.out.later HFin.out
  have HQ3 : Hid (BytesAt w7 (.slice (some ⟨g5, 0, none⟩) x.length c5) x) := ((HO5.out.later HB6.out).later HB7.out).bytes
  have HQ4 : Hid (BytesAt w7 (.slice a7 B.length c7) B) := HO7.out.bytes
  have HQ5 : Hid (BytesAt w7 (.slice a1 B.length c1) B) := (HO1.out.later HBw7.out).bytes
  have HQ6 : Hid (TRd w7 rv (ts6.map Tk.g) ∧ TRd w7 tv (ts2.map Tk.g)) := ⟨(HT6.out.after HB7.out).rd HF6.out, (HT62.out.after HB7.out).rd HF2.out⟩
  go_wp2_with fail
  refine (sameYes _ _ x w7 HQ1.out HQ2.out).mono ?_
  rintro e w8 ⟨rfl, n8, rfl⟩
  go_wp2_with fail
  refine (sameYes _ _ x _ (HQ3.out.drewN n8) (HQ2.out.drewN n8)).mono ?_
  rintro e w9 ⟨rfl, n9, rfl⟩
  go_wp2_with fail
  refine (sameTok rv tv _ _ _ (HQ6.out.1.drewN _) (HQ6.out.2.drewN _) (same_c HC6.out).1 (same_c HC6.out).2).mono ?_
  rintro e w10 ⟨rfl, n10, rfl⟩
  go_wp2_with fail
  refine (sameYes _ _ B _ (HQ4.out.drewN _) (HQ5.out.drewN _)).mono ?_
  rintro e w11 ⟨rfl, n11, rfl⟩
  go_wp2
  go_ret
  first | exact ⟨rfl, below_drewN HFin.out _⟩ | exact ⟨rfl, below_drewN (below_drewN HFin.out _) _⟩

theorem backAny (v : Value) (l : List Nat) (w : World) (h : BytesAt w v l) : Calls Try.prog 8 #[v] w fun e w' => e = .returned (.bool true) ∧ Below w.heap.size w w' := by
  by_cases hl : 4096 < l.length
  · exact backLong v l w h hl
  · exact backOf v l w h (by omega)
end Go.Proofs.Ytdjaogailfipjab
