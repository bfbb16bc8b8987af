import Derived.Test.YtdjaogailfipjabBk
namespace Go.Proofs.Ytdjaogailfipjab
open Go.RowKit Plain
set_option linter.unusedVariables false
set_option linter.unusedSimpArgs false

theorem Own.isSlice2 {w : World} {v : Value} {l : List Nat} {r : Option Nat} (h : Own w v l r) : ∃ a cap, v = .slice a l.length cap ∧ l.length ≤ 9223372036854775807 := by
  obtain ⟨a, cap, e⟩ := h.isSlice
  have := h.len
  unfold maxLen at this
  exact ⟨a, cap, e, by omega⟩

theorem below_of_drewN {w w1 : World} {n : Nat} (h : Below (w.drewN n).heap.size (w.drewN n) w1) : Below w.heap.size w w1 := ⟨h.os, h.tape, h.output, h.size, h.block⟩

set_option maxHeartbeats 4000000 in
set_option maxRecDepth 1000000 in
theorem onlyAny (v : Value) (l : List Nat) (w : World) (h : BytesAt w v l) (hlm : l.length ≤ 140737488355328) :
    Calls Try.prog 6 #[v] w fun e w' => e = .returned (.bool true) ∧ Below w.heap.size w w' := by
  have HV : Hid (BytesAt w v l) := h
  obtain ⟨a, cap, rfl, hlc, hcm, -, -⟩ := h
  unfold maxLen at hcm
  have HSolOf : Hid (∀ x, DecOk l x → ∃ n ts, Sol l n ts) := fun x hx => by
    obtain ⟨ts, _, h2⟩ := hx.sol
    exact ⟨_, ts, h2⟩
  go_enter Try.func6, Try.ntmps6
  go_wp2_with fail
  refine (decodeOf _ l w HV.out).mono ?_
  rintro e w1 ⟨hb1, hres1⟩
  have HB1 : Hid (Below w.heap.size w w1) := hb1
  clear hb1
  rcases hres1 with ⟨x, v1, r1, rfl, hd, ho1, -⟩ | ⟨rfl, hnd⟩
  · -- taken back
    have HD : Hid (DecOk l x) := hd
    have HO1 : Hid (Own w1 v1 x r1) := ho1
    obtain ⟨a1, c1, rfl, hxl⟩ := ho1.isSlice2
    clear hd ho1
    go_wp2_with fail
    refine (readAny _ l w1 (HV.out.later HB1.out)).mono ?_
    rintro e w2 ⟨hb2, hres2⟩
    rcases hres2 with ⟨tv, ts, r, n, rfl, hs, ht⟩ | ⟨-, hno⟩
    case inr =>
      obtain ⟨n, ts, hs⟩ := HSolOf.out x HD.out
      exact absurd hs (hno n ts)
    have HS : Hid (Sol l n ts) := hs
    have HT : Hid (TRow w1.heap.size w2 tv ts r) := ht
    have HB2 : Hid (Below w1.heap.size w1 w2) := hb2
    have HF : Hid (∀ t ∈ ts, t.fits) := (sol_fits ts 0 n (by omega) hs.1).1
    have hn4 : n ≤ 4096 := by have := tlen_max _ 0 (by omega) (by rw [hs.1]); rw [hs.1] at this; exact this
    have HX : Hid (expd (ts.map Tk.g) = x) := by
      obtain ⟨ss, k1, k2⟩ := HD.out.sol
      have e2 := (k1.sound HD.out.1).2
      rw [List.take_length] at e2
      unfold Hid
      rw [← e2]
      exact expd_c (hs.unique k2).2
    clear hs ht hb2
    go_wp2_with fail
    refine (writeOf _ n tv ts r w2 HT.out HS.out.1).mono ?_
    rintro e w3 ⟨v3, r3, rfl, ho3, hb3, -⟩
    rw [← HS.out.2] at ho3
    have HO3 : Hid (Own w3 v3 l r3) := ho3
    have HB3 : Hid (Below w2.heap.size w2 w3) := hb3
    obtain ⟨a3, c3, rfl, -⟩ := ho3.isSlice2
    clear ho3 hb3
    go_wp2_with fail
    have HE4 : Hid (Calls Try.prog 21 #[tv] w3 fun e w' => ∃ g cap, e = .returned (.tuple #[.slice (some ⟨g, 0, none⟩) x.length cap, .int .i64 0]) ∧ Own w' (.slice (some ⟨g, 0, none⟩) x.length cap) x (some g) ∧ Below w3.heap.size w3 w') := by
      refine (expandOf tv (ts.map Tk.g) w3 ((HT.out.after HB3.out).rd HF.out) (by rw [HS.out.1]) (by rw [HS.out.1]; exact hn4)).mono ?_
      rintro e w' ⟨g, cap', h1, h2, h3, h4, _⟩
      rw [HX.out] at h1 h2
      exact ⟨g, cap', h1, h2, h4⟩
    refine HE4.out.mono ?_
    rintro e w4 ⟨g4, c4, rfl, ho4, hb4⟩
    have HO4 : Hid (Own w4 (.slice (some ⟨g4, 0, none⟩) x.length c4) x (some g4)) := ho4
    have HB4 : Hid (Below w3.heap.size w3 w4) := hb4
    have HBw4 : Hid (Below w.heap.size w w4 ∧ Below w1.heap.size w1 w4) := by
      have h3 := HB2.out.trans (HB3.out.mono HB2.out.size)
      have h4 := h3.trans (hb4.mono h3.size)
      exact ⟨HB1.out.trans (h4.mono HB1.out.size), h4⟩
    clear ho4 hb4
    go_wp2_with fail
    refine (sameYes _ _ l w4 (HO3.out.later HB4.out).bytes (HV.out.later HBw4.out.1)).mono ?_
    rintro e w5 ⟨rfl, n5, rfl⟩
    go_wp2_with fail
    refine (encodeOf _ x _ (HO4.out.bytes.drewN n5) HD.out.1).mono ?_
    rintro e w6 ⟨v6, r6, ts6, rfl, hp6, ho6, hb6, -⟩
    have hb6' : blk x.length ts6 = l := by
      obtain ⟨_, ss, k1, k2⟩ := HD.out
      rw [k2]
      exact blk_c (hp6.unique k1)
    rw [hb6'] at ho6
    have HO6 : Hid (Own w6 v6 l r6) := ho6
    have HBd : Hid (Below w4.heap.size w4 w6) := below_of_drewN hb6
    have HB6 : Hid (Below w.heap.size w w6) := HBw4.out.1.trans (HBd.out.mono HBw4.out.1.size)
    have HQ : Hid (BytesAt w6 (.slice a1 x.length c1) x ∧ BytesAt w6 (.slice (some ⟨g4, 0, none⟩) x.length c4) x) := ⟨((HO1.out.later HBw4.out.2).later HBd.out).bytes, (HO4.out.later HBd.out).bytes⟩
    obtain ⟨a6, c6, rfl, -⟩ := ho6.isSlice2
    clear hp6 ho6 hb6 hb6'
    go_wp2_with fail
    refine (sameYes _ _ l w6 HO6.out.bytes (HV.out.later HB6.out)).mono ?_
    rintro e w7 ⟨rfl, n7, rfl⟩
    go_wp2_with fail
    refine (sameYes _ _ x _ (HQ.out.1.drewN n7) (HQ.out.2.drewN n7)).mono ?_
    rintro e w8 ⟨rfl, n8, rfl⟩
    go_wp2_with fail
    refine (headOf _).mono ?_
    rintro e w9 ⟨rfl, hb9⟩
    have HBf : Hid (Below w.heap.size w w9) := by
      first
        | exact (below_drewN HB6.out _).trans (hb9.mono (below_drewN HB6.out _).size)
        | exact (below_drewN (below_drewN HB6.out _) _).trans (hb9.mono (below_drewN (below_drewN HB6.out _) _).size)
    clear hb9
    go_wp2
    go_ret
    exact ⟨rfl, HBf.out⟩
  · have HND : Hid (∀ x, ¬ DecOk l x) := hnd
    clear hnd
    go_wp2_with fail
    refine (readAny _ l w1 (HV.out.later HB1.out)).mono ?_
    rintro e w2 ⟨hb2, hres2⟩
    rcases hres2 with ⟨tv, ts, r, n, rfl, hs, ht⟩ | ⟨rfl, -⟩
    · have HS : Hid (Sol l n ts) := hs
      have HT : Hid (TRow w1.heap.size w2 tv ts r) := ht
      have HB2 : Hid (Below w1.heap.size w1 w2) := hb2
      have HF : Hid (∀ t ∈ ts, t.fits) := (sol_fits ts 0 n (by omega) hs.1).1
      have hn4 : n ≤ 4096 := by have := tlen_max _ 0 (by omega) (by rw [hs.1]); rw [hs.1] at this; exact this
      obtain ⟨x, hx⟩ : ∃ x, expd (ts.map Tk.g) = x := ⟨_, rfl⟩
      have HX : Hid (expd (ts.map Tk.g) = x) := hx
      clear hs ht hb2 hx
      go_wp2_with fail
      refine (writeOf _ n tv ts r w2 HT.out HS.out.1).mono ?_
      rintro e w3 ⟨v3, r3, rfl, ho3, hb3, -⟩
      rw [← HS.out.2] at ho3
      have HO3 : Hid (Own w3 v3 l r3) := ho3
      have HB3 : Hid (Below w2.heap.size w2 w3) := hb3
      obtain ⟨a3, c3, rfl, -⟩ := ho3.isSlice2
      clear ho3 hb3
      go_wp2_with fail
      have HE4 : Hid (Calls Try.prog 21 #[tv] w3 fun e w' => ∃ g cap, e = .returned (.tuple #[.slice (some ⟨g, 0, none⟩) x.length cap, .int .i64 0]) ∧ Own w' (.slice (some ⟨g, 0, none⟩) x.length cap) x (some g) ∧ Below w3.heap.size w3 w' ∧ x.length = n) := by
        refine (expandOf tv (ts.map Tk.g) w3 ((HT.out.after HB3.out).rd HF.out) (by rw [HS.out.1]) (by rw [HS.out.1]; exact hn4)).mono ?_
        rintro e w' ⟨g, cap', h1, h2, h3, h4, h5⟩
        rw [HX.out] at h1 h2 h5
        rw [HS.out.1] at h5
        exact ⟨g, cap', h1, h2, h4, h5⟩
      refine HE4.out.mono ?_
      rintro e w4 ⟨g4, c4, rfl, ho4, hb4, hxn⟩
      have hx4 : x.length ≤ 4096 := by omega
      have HO4 : Hid (Own w4 (.slice (some ⟨g4, 0, none⟩) x.length c4) x (some g4)) := ho4
      have HB4 : Hid (Below w3.heap.size w3 w4) := hb4
      have HBw4 : Hid (Below w.heap.size w w4) := by
        have h3 := HB2.out.trans (HB3.out.mono HB2.out.size)
        have h4 := h3.trans (hb4.mono h3.size)
        exact HB1.out.trans (h4.mono HB1.out.size)
      clear ho4 hb4 hxn
      go_wp2_with fail
      refine (sameYes _ _ l w4 (HO3.out.later HB4.out).bytes (HV.out.later HBw4.out)).mono ?_
      rintro e w5 ⟨rfl, n5, rfl⟩
      go_wp2_with fail
      refine (encodeOf _ x _ (HO4.out.bytes.drewN n5) hx4).mono ?_
      rintro e w6 ⟨v6, r6, ts6, rfl, hp6, ho6, hb6, -⟩
      have HNe : Hid (blk x.length ts6 ≠ l) := fun e => HND.out x ⟨hx4, ts6, hp6, e.symm⟩
      have HO6 : Hid (Own w6 v6 (blk x.length ts6) r6) := ho6
      have HBd : Hid (Below w4.heap.size w4 w6) := below_of_drewN hb6
      have HB6 : Hid (Below w.heap.size w w6) := HBw4.out.trans (HBd.out.mono HBw4.out.size)
      obtain ⟨a6, c6, rfl, -⟩ := ho6.isSlice2
      clear hp6 ho6 hb6
      go_wp2_with fail
      refine (sameNo _ _ _ l w6 HNe.out HO6.out.bytes (HV.out.later HB6.out)).mono ?_
      rintro e w7 ⟨rfl, n7, rfl⟩
      go_wp2_with fail
      refine (headOf _).mono ?_
      rintro e w9 ⟨rfl, hb9⟩
      have HBf : Hid (Below w.heap.size w w9) := (below_drewN HB6.out _).trans (hb9.mono (below_drewN HB6.out _).size)
      clear hb9
      go_wp2
      go_ret
      exact ⟨rfl, HBf.out⟩
    · have HB2 : Hid (Below w1.heap.size w1 w2) := hb2
      clear hb2
      go_wp2_with fail
      refine (headOf w2).mono ?_
      rintro e w3 ⟨rfl, hb3⟩
      have HBf : Hid (Below w.heap.size w w3) := by
        have h2 := HB1.out.trans (HB2.out.mono HB1.out.size)
        exact h2.trans (hb3.mono h2.size)
      clear hb3
      go_wp2
      go_ret
      exact ⟨rfl, HBf.out⟩
end Go.Proofs.Ytdjaogailfipjab
