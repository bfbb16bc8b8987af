import Derived.Test.YtklfmgkfcacfkacRw2
/-! The document's Encode. -/
namespace Go.Proofs.Ytklfmgkfcacfkac
open Go.RowKit Plain
set_option linter.unusedVariables false
set_option linter.unusedSimpArgs false

theorem tlen_c3 : ∀ (tg sg : List Tg) (m : Nat), tg.map Tg.c3 = sg.map Tg.c3 → tlen tg m = tlen sg m
  | [], [], _, _ => rfl
  | [], _ :: _, _, h => by simp at h
  | _ :: _, [], _, h => by simp at h
  | t :: tg, s :: sg, m, h => by
    simp only [List.map_cons, List.cons.injEq, Tg.c3, Prod.mk.injEq] at h
    obtain ⟨⟨h1, h2, h3⟩, h4⟩ := h
    have e1 : t.right m = s.right m := by unfold Tg.right; rw [h1, h2, h3]
    have e2 : t.add = s.add := by unfold Tg.add; rw [h1, h3]
    simp only [tlen]
    rw [e1, e2, tlen_c3 tg sg _ h4]
theorem Sims.tlen {tg : List Tg} {ts : List Tk} (h : Sims tg ts) (m : Nat) : Go.Proofs.Ytklfmgkfcacfkac.tlen tg m = Go.Proofs.Ytklfmgkfcacfkac.tlen (ts.map Tk.g) m := by
  refine tlen_c3 _ _ m ?_
  rw [List.map_map]
  exact h
theorem PreP.full {l : List Nat} {ts : List Tk} {i : Nat} (h : PreP l ts i) : ∀ g b, Tk.lit g b ∈ ts → b ≠ [] := by
  induction h using PreP.ind with
  | nil => simp
  | lit h hlast hb hi he hn ih =>
    intro g b hm
    rcases List.mem_append.mp hm with h1 | h1
    · exact ih g b h1
    · rw [List.mem_singleton] at h1
      simp at h1
      rw [h1.2]
      exact hb
  | mat h hn hb ih =>
    intro g b hm
    rcases List.mem_append.mp hm with h1 | h1
    · exact ih g b h1
    · rw [List.mem_singleton] at h1
      simp at h1

theorem refEncodeLong (v : Value) (l : List Nat) (w : World) (h : BytesAt w v l) (hl : 4096 < l.length) :
    Calls Try.prog 13 #[v] w fun e w' => e = .returned (.tuple #[.slice none 0 0, .int .i64 2]) ∧ w' = w := by
  have HV : Hid (BytesAt w v l) := h
  obtain ⟨a, cap, rfl, -⟩ := h
  go_enter Try.func13, Try.ntmps13
  go_wp2_with fail
  refine (refTokensLong _ l w HV.out hl).mono ?_
  rintro e w1 ⟨rfl, rfl⟩
  go_wp2
  go_ret2
  exact ⟨rfl, rfl⟩
theorem refEncodeOf (v : Value) (l : List Nat) (w : World) (h : BytesAt w v l) (hl : l.length ≤ 4096) :
    Calls Try.prog 13 #[v] w fun e w' => ∃ v' r' ts, e = .returned (.tuple #[v', .int .i64 0]) ∧ PreP l ts l.length ∧ Own w' v' (blk l.length ts) r' ∧ Below w.heap.size w w' ∧ (∀ g, r' = some g → w.heap.size ≤ g) := by
  have HV : Hid (BytesAt w v l) := h
  obtain ⟨a, cap, rfl, -⟩ := h
  go_enter Try.func13, Try.ntmps13
  go_wp2_with fail
  refine (refTokensOf _ l w HV.out hl).mono ?_
  rintro e w1 ⟨tv, tg, r, ts, rfl, hp, hs, hrow, hb1⟩
  have HP : Hid (PreP l ts l.length) := hp
  have HT : Hid (tlen tg 0 = (l.length, 0)) := by unfold Hid; rw [hs.tlen]; exact (hp.sound hl).1
  have HBK : Hid (blkG l.length tg = blk l.length ts) := hs.blk hp.full _
  have HRD : Hid (TRd w1 tv tg) := hrow.rd
  have HB1 : Hid (Below w.heap.size w w1) := hb1
  obtain ⟨a1, n1, c1, rfl⟩ : ∃ a1 n1 c1, tv = .slice a1 n1 c1 := by
    obtain ⟨a1, c1, e, -⟩ := hrow.rd
    exact ⟨a1, _, c1, e⟩
  clear hp hs hrow hb1
  go_wp2_with fail
  refine (refWriteGood _ tg w1 HRD.out (by rw [HT.out])).mono ?_
  rintro e w2 ⟨he, hb2⟩
  rcases he with ⟨h0, _⟩ | ⟨_, v2, r2, rfl, ho2, hr2⟩
  · exact absurd (by rw [HT.out]) h0
  rw [HT.out] at ho2
  simp only at ho2
  rw [HBK.out] at ho2
  have HO2 : Hid (Own w2 v2 (blk l.length ts) r2) := ho2
  have HR2 : Hid (∀ g, r2 = some g → w.heap.size ≤ g) := fun g hg => by have := hr2 g hg; have := HB1.out.size; omega
  have HB2 : Hid (Below w.heap.size w w2) := below_on HB1.out hb2
  clear ho2 hr2 hb2
  go_wp2
  go_ret2
  exact ⟨v2, r2, ts, rfl, HP.out, HO2.out, HB2.out, HR2.out⟩
end Go.Proofs.Ytklfmgkfcacfkac
