import Derived.Test.YtklfmgkfcacfkacDc
namespace Go.Proofs.Ytklfmgkfcacfkac
open Go.RowKit Plain
set_option linter.unusedVariables false
set_option linter.unusedSimpArgs false

/-- The bytes are the block of the text x. -/
def DecOk (l x : List Nat) : Prop := x.length ≤ 4096 ∧ ∃ ts, PreP x ts x.length ∧ l = blk x.length ts

theorem DecOk.sol {l x : List Nat} (h : DecOk l x) : ∃ ts, PreP x ts x.length ∧ Sol l x.length ts := by
  obtain ⟨h1, ts, h2, h3⟩ := h
  exact ⟨ts, h2, by rw [h3]; exact h2.sol h1⟩

theorem DecOk.unique {l x y : List Nat} (h : DecOk l x) (k : DecOk l y) : x = y := by
  obtain ⟨ts, h1, h2⟩ := h.sol
  obtain ⟨ss, k1, k2⟩ := k.sol
  obtain ⟨hn, hc⟩ := h2.unique k2
  have e1 := (h1.sound h.1).2
  have e2 := (k1.sound k.1).2
  rw [List.take_length] at e1 e2
  rw [← e1, ← e2]
  exact expd_c hc

set_option maxHeartbeats 2000000 in
set_option maxRecDepth 1000000 in
theorem decodeOf (v : Value) (l : List Nat) (w : World) (h : BytesAt w v l) :
    Calls Try.prog 6 #[v] w fun e w' => Below w.heap.size w w' ∧
      ((∃ x v' r', e = .returned (.tuple #[v', .int .i64 0]) ∧ DecOk l x ∧ Own w' v' x r' ∧ (∀ g, r' = some g → w.heap.size ≤ g)) ∨ (e = .returned (.tuple #[.slice none 0 0, .int .i64 20]) ∧ ∀ x, ¬ DecOk l x)) := by
  have HB : Hid (BytesAt w v l) := h
  have HR : Hid (Calls Try.prog 15 #[v] w fun e w' => Below w.heap.size w w' ∧
      ((∃ tv ts r n, e = .returned (.tuple #[tv, .int .i64 0]) ∧ Sol l n ts ∧ TRow w.heap.size w' tv ts r) ∨ (e = .returned (.tuple #[.slice none 0 0, .int .i64 20]) ∧ ∀ k ts, ¬ Sol l k ts))) := readAny v l w h
  clear h
  go_enter Try.func6, Try.ntmps6
  go_wp2_with fail
  refine HR.out.mono ?_
  rintro e w1 ⟨hb1, hres⟩
  have HB1 : Hid (Below w.heap.size w w1) := hb1
  clear hb1
  rcases hres with ⟨tv, ts, r, n, rfl, hsol, htr⟩ | ⟨rfl, hno⟩
  · obtain ⟨hf, hlen⟩ := sol_fits ts 0 n (by omega) hsol.1
    have hn4 : n ≤ 4096 := by have := tlen_max _ 0 (by omega) (by rw [hsol.1]); rw [hsol.1] at this; exact this
    have HS : Hid (Sol l n ts) := hsol
    have HE : Hid (Calls Try.prog 16 #[tv] w1 fun e w' => ∃ g cap, e = .returned (.tuple #[.slice (some ⟨g, 0, none⟩) (expd (ts.map Tk.g)).length cap, .int .i64 0]) ∧ Own w' (.slice (some ⟨g, 0, none⟩) (expd (ts.map Tk.g)).length cap) (expd (ts.map Tk.g)) (some g) ∧ w1.heap.size ≤ g ∧ Below w1.heap.size w1 w' ∧ (expd (ts.map Tk.g)).length = n) := by
      have := expandOf tv (ts.map Tk.g) w1 (htr.rd hf) (by rw [hsol.1]) (by rw [hsol.1]; exact hn4)
      rw [hsol.1] at this
      exact this
    obtain ⟨x, hx⟩ : ∃ x, expd (ts.map Tk.g) = x := ⟨_, rfl⟩
    rw [hx] at HE
    have HX : Hid (expd (ts.map Tk.g) = x) := hx
    clear hsol htr hf hx
    go_wp2_with fail
    refine HE.out.mono ?_
    rintro e w2 ⟨g2, cap2, rfl, ho2, hg2, hb2, hlx⟩
    have HO2 : Hid (Own w2 (.slice (some ⟨g2, 0, none⟩) x.length cap2) x (some g2) ∧ Below w.heap.size w w2 ∧ w.heap.size ≤ g2) := ⟨ho2, HB1.out.trans (hb2.mono HB1.out.size), by have := HB1.out.size; omega⟩
    have HLX : Hid (x.length = n) := hlx
    have hx4 : x.length ≤ 4096 := by omega
    clear ho2 hb2 hlx
    go_wp2_with fail
    refine (encodeOf _ x w2 HO2.out.1.bytes hx4).mono ?_
    rintro e w3 ⟨v3, r3, ts3, rfl, hp3, ho3, hb3, hr3⟩
    have HP3 : Hid (PreP x ts3 x.length) := hp3
    have HO3 : Hid (Own w3 v3 (blk x.length ts3) r3 ∧ Below w.heap.size w w3 ∧ Own w3 (.slice (some ⟨g2, 0, none⟩) x.length cap2) x (some g2)) := ⟨ho3, HO2.out.2.1.trans (hb3.mono HO2.out.2.1.size), HO2.out.1.later hb3⟩
    clear hp3 ho3 hb3 hr3
    go_wp2_with fail
    refine (bytesEqual _ _ _ l w3 HO3.out.1.bytes (HB.out.later HO3.out.2.1)).mono ?_
    rintro e w4 ⟨rfl, rfl⟩
    by_cases heq : blk x.length ts3 = l
    · have hd : decide (blk x.length ts3 = l) = true := by simpa using heq
      have HD : Hid (DecOk l x) := ⟨hx4, ts3, HP3.out, heq.symm⟩
      rw [hd]
      clear heq hd
      go_wp2
      go_ret2
      exact ⟨HO3.out.2.1, .inl ⟨x, _, some g2, rfl, HD.out, HO3.out.2.2, fun g e => by simp at e; have := HO2.out.2.2; omega⟩⟩
    · have hd : decide (blk x.length ts3 = l) = false := by simpa using heq
      have HD : Hid (∀ y, ¬ DecOk l y) := fun y hy => by
        obtain ⟨ss, k1, k2⟩ := hy.sol
        obtain ⟨hn, hc⟩ := HS.out.unique k2
        have e2 := (k1.sound hy.1).2
        rw [List.take_length] at e2
        have hxy : x = y := by rw [← HX.out, ← e2]; exact expd_c hc
        subst hxy
        apply heq
        rw [k2.2]
        exact blk_c (HP3.out.unique k1)
      rw [hd]
      clear heq hd
      go_wp2
      go_ret2
      exact ⟨HO3.out.2.1, .inr ⟨rfl, HD.out⟩⟩
  · have HD : Hid (∀ x, ¬ DecOk l x) := fun x hx => by
      obtain ⟨ts, _, h2⟩ := hx.sol
      exact hno _ _ h2
    clear hno
    go_wp2
    go_ret2
    exact ⟨HB1.out, .inr ⟨rfl, HD.out⟩⟩
end Go.Proofs.Ytklfmgkfcacfkac
