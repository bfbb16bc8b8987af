import Derived.Test.YtklfmgkfcacfkacNe
import Derived.Test.YtklfmgkfcacfkacDd
/-! The document's Decode. -/
namespace Go.Proofs.Ytklfmgkfcacfkac
open Go.RowKit Plain
set_option linter.unusedVariables false
set_option linter.unusedSimpArgs false

theorem expd_c3 (tg sg : List Tg) (h : tg.map Tg.c3 = sg.map Tg.c3) : expd tg = expd sg := by
  have key : ∀ (tg sg : List Tg) (x : List Nat), tg.map Tg.c3 = sg.map Tg.c3 → tg.foldl Tg.grow x = sg.foldl Tg.grow x := by
    intro tg
    induction tg with
    | nil =>
      intro sg x h
      cases sg with
      | nil => rfl
      | cons s sg => simp at h
    | cons t tg ih =>
      intro sg x h
      cases sg with
      | nil => simp at h
      | cons s sg =>
        simp only [List.map_cons, List.cons.injEq, Tg.c3, Prod.mk.injEq] at h
        obtain ⟨⟨h1, h2, h3⟩, h4⟩ := h
        have e : Tg.grow x t = Tg.grow x s := by unfold Tg.grow; rw [h1, h2, h3]
        rw [List.foldl_cons, List.foldl_cons, e]
        exact ih sg _ h4
  exact key tg sg [] h
theorem Sims.expd {tg : List Tg} {ts : List Tk} (h : Sims tg ts) : Go.Proofs.Ytklfmgkfcacfkac.expd tg = Go.Proofs.Ytklfmgkfcacfkac.expd (ts.map Tk.g) := by
  refine expd_c3 _ _ ?_
  rw [List.map_map]
  exact h

/-- What is made of a block: its text, or nothing. -/
def Dcd (l X : List Nat) (z : Int) : Prop := (z = 0 ∧ DecOk l X) ∨ (z = 20 ∧ X = [] ∧ ∀ x, ¬ DecOk l x)
theorem Dcd.one {l X Y : List Nat} {y z : Int} (h : Dcd l X y) (k : Dcd l Y z) : X = Y ∧ y = z := by
  rcases h with ⟨rfl, h⟩ | ⟨rfl, rfl, h⟩
  · rcases k with ⟨rfl, k⟩ | ⟨rfl, rfl, k⟩
    · exact ⟨h.unique k, rfl⟩
    · exact absurd h (k _)
  · rcases k with ⟨rfl, k⟩ | ⟨rfl, rfl, k⟩
    · exact absurd k (h _)
    · exact ⟨rfl, rfl⟩
theorem Dcd.len {l X : List Nat} {z : Int} (h : Dcd l X z) : X.length ≤ 30000 := by
  rcases h with ⟨_, h⟩ | ⟨_, rfl, _⟩
  · have := h.1; omega
  · simp
def DcdPost (w : World) (l : List Nat) : Ending → World → Prop := fun e w' => ∃ v r X z, e = .returned (.tuple #[v, .int .i64 z]) ∧ Dcd l X z ∧ Own w' v X r ∧ (∀ g, r = some g → w.heap.size ≤ g) ∧ Below w.heap.size w w'
theorem decodeAny (v : Value) (l : List Nat) (w : World) (h : BytesAt w v l) : Calls Try.prog 6 #[v] w (DcdPost w l) := by
  refine (decodeOf v l w h).mono ?_
  rintro e w' ⟨hb, hres⟩
  rcases hres with ⟨x, v', r', he, h1, h2, h3⟩ | ⟨he, h1⟩
  · exact ⟨v', r', x, 0, he, .inl ⟨rfl, h1⟩, h2, h3, hb⟩
  · exact ⟨_, none, [], 20, he, .inr ⟨rfl, rfl, h1⟩, Own.nil _, by simp, hb⟩

set_option maxHeartbeats 2000000 in
theorem refDecodeAny (v : Value) (l : List Nat) (w : World) (h : BytesAt w v l) (hl : l.length ≤ 1048576) : Calls Try.prog 4 #[v] w (DcdPost w l) := by
  have HV : Hid (BytesAt w v l) := h
  obtain ⟨a, cap, rfl, -⟩ := h
  go_enter Try.func4, Try.ntmps4
  go_wp2_with fail
  refine (refReadOf _ l w HV.out hl).mono ?_
  rintro e w1 ⟨hb1, hres⟩
  have HB1 : Hid (Below w.heap.size w w1) := hb1
  clear hb1
  rcases hres with ⟨tv, tg, r, n, ts, rfl, hsol, hsim, hrow⟩ | ⟨rfl, hno⟩
  · have HS : Hid (Sol l n ts) := hsol
    have HT : Hid (tlen tg 0 = (n, 0)) := by unfold Hid; rw [hsim.tlen]; exact hsol.1
    have HEX : Hid (expd tg = expd (ts.map Tk.g)) := hsim.expd
    have hn4 : n ≤ 4096 := hsol.n4.1
    have HRD : Hid (TRd w1 tv tg) := hrow.rd
    obtain ⟨a1, n1, c1, rfl⟩ : ∃ a1 n1 c1, tv = .slice a1 n1 c1 := by
      obtain ⟨a1, c1, e, -⟩ := hrow.rd
      exact ⟨a1, _, c1, e⟩
    clear hsol hsim hrow
    go_wp2_with fail
    refine (refExpand _ tg w1 HRD.out).mono ?_
    rintro e w2 ⟨he, hb2⟩
    rcases he with ⟨h0, _⟩ | ⟨_, v2, r2, rfl, ho2, hr2, hl2⟩
    · exact absurd (by rw [HT.out]) h0
    rw [HT.out] at hl2
    simp only at hl2
    obtain ⟨x, hx⟩ : ∃ x, expd tg = x := ⟨_, rfl⟩
    rw [hx] at ho2 hl2
    have HX : Hid (expd (ts.map Tk.g) = x) := by unfold Hid; rw [← HEX.out]; exact hx
    have hx4 : x.length ≤ 4096 := by omega
    have HLX : Hid (x.length = n) := hl2
    obtain ⟨a2, c2, rfl⟩ := ho2.isSlice
    have HO2 : Hid (Own w2 (.slice a2 x.length c2) x r2) := ho2
    have HB2 : Hid (Below w.heap.size w w2) := below_on HB1.out hb2
    have HR2 : Hid (∀ g, r2 = some g → w.heap.size ≤ g) := fun g hg => by have := hr2 g hg; have := HB1.out.size; omega
    clear ho2 hr2 hl2 hb2 hx
    go_wp2_with fail
    refine (refEncodeOf _ x w2 HO2.out.bytes hx4).mono ?_
    rintro e w3 ⟨v3, r3, ts3, rfl, hp3, ho3, hb3, hr3⟩
    have HP3 : Hid (PreP x ts3 x.length) := hp3
    have HO3 : Hid (Own w3 v3 (blk x.length ts3) r3) := ho3
    have HK3 : Hid (Own w3 (.slice a2 x.length c2) x r2) := HO2.out.later hb3
    have HB3 : Hid (Below w.heap.size w w3) := below_on HB2.out hb3
    clear hp3 ho3 hb3 hr3
    go_wp2_with fail
    refine (refSame _ _ _ l w3 HO3.out.bytes (HV.out.later HB3.out)).mono ?_
    rintro e w4 ⟨rfl, n4, rfl⟩
    by_cases heq : blk x.length ts3 = l
    · have HD : Hid (DecOk l x) := ⟨hx4, ts3, HP3.out, heq.symm⟩
      rw [decide_eq_true heq]
      clear heq
      go_wp2
      go_ret2
      exact ⟨_, r2, x, 0, rfl, .inl ⟨rfl, HD.out⟩, HK3.out.later (below_drewN (Below.refl _ _) _), HR2.out, below_drewN HB3.out _⟩
    · have HD : Hid (∀ y, ¬ DecOk l y) := fun y hy => by
        obtain ⟨ss, k1, k2⟩ := hy.sol
        obtain ⟨hn, hc⟩ := HS.out.unique k2
        have e2 := (k1.sound hy.1).2
        rw [List.take_length] at e2
        have hxy : x = y := by rw [← HX.out, ← e2]; exact expd_c hc
        subst hxy
        apply heq
        rw [k2.2]
        exact blk_c (HP3.out.unique k1)
      rw [decide_eq_false heq]
      clear heq
      go_wp2
      go_ret2
      exact ⟨_, none, [], 20, rfl, .inr ⟨rfl, rfl, HD.out⟩, Own.nil _, by simp, below_drewN HB3.out _⟩
  · have HD : Hid (∀ x, ¬ DecOk l x) := fun x hx => by
      obtain ⟨ts, _, h2⟩ := hx.sol
      exact hno _ _ h2
    clear hno
    go_wp2
    go_ret2
    exact ⟨_, none, [], 20, rfl, .inr ⟨rfl, rfl, HD.out⟩, Own.nil _, by simp, HB1.out⟩
end Go.Proofs.Ytklfmgkfcacfkac
