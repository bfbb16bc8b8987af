import Derived.Test.YtbngedfpojnbjacOg
/-! The law of the readers. -/
namespace Go.Proofs.Ytbngedfpojnbjac
open Go.RowKit Plain
set_option linter.unusedVariables false

structure St where
  k : Int
  n : Nat
  s : ByteArray
/-- What stands where there is no step. -/
def St.none : St := ⟨0, 0, ByteArray.empty⟩

/-- v is a slice of steps that reads as st. -/
def StepsAt (w : World) (v : Value) (st : List St) : Prop :=
  ∃ a cap, v = .slice a st.length cap ∧ st.length ≤ maxLen ∧ (∀ x ∈ st, x.n < 18446744073709551616 ∧ x.s.size < 18446744073709551616) ∧
    (st ≠ [] → ∃ b off, a = some ⟨b, off, .none⟩ ∧ ∀ j, j < st.length → w.cell? ⟨b, off + j * 3, .none⟩ = some (.int .i64 (st.getD j St.none).k) ∧ w.cell? ⟨b, off + j * 3 + 1, .none⟩ = some (.int .u64 ((st.getD j St.none).n : Int)) ∧ w.cell? ⟨b, off + j * 3 + 2, .none⟩ = some (.string (st.getD j St.none).s))

/-- What the law has in memory. -/
structure Inv (w wr : World) (b1 : Nat) (r1 : Option Nat) (c1 g1 b2 c2 g2 : Nat) (s1 s2 : Rs) : Prop where
  one : Pair wr b1 r1 c1 g1 s1
  two : Pair wr b2 none c2 g2 s2
  bl : Below w.heap.size w wr
  b1l : w.heap.size ≤ b1
  c1l : w.heap.size ≤ c1
  b2l : w.heap.size ≤ b2
  c2l : w.heap.size ≤ c2
  h1 : b1 ≠ b2
  h2 : b1 ≠ c2
  h3 : c1 ≠ b2
  h4 : c1 ≠ c2
  h5 : g1 ≠ b2
  h6 : g1 ≠ c2
  h7 : g2 ≠ b1
  h8 : g2 ≠ c1
  h9 : r1 ≠ some b2
  h10 : r1 ≠ some c2

theorem Inv.later {w wr w' : World} {b1 : Nat} {r1 : Option Nat} {c1 g1 b2 c2 g2 : Nat} {s1 s2 : Rs} (h : Inv w wr b1 r1 c1 g1 b2 c2 g2 s1 s2) (k : Below wr.heap.size wr w') : Inv w w' b1 r1 c1 g1 b2 c2 g2 s1 s2 :=
  { h with one := h.one.later k, two := h.two.later k, bl := below_on h.bl k }
theorem Inv.first {w wr w' : World} {b1 : Nat} {r1 : Option Nat} {c1 g1 b2 c2 g2 : Nat} {s1 s2 s' : Rs} (h : Inv w wr b1 r1 c1 g1 b2 c2 g2 s1 s2) (hp : Pair w' b1 r1 c1 g1 s') (k : Fr wr w' b1 c1) : Inv w w' b1 r1 c1 g1 b2 c2 g2 s' s2 :=
  { h with one := hp, two := h.two.fr k (Ne.symm h.h1) (Ne.symm h.h3) (Ne.symm h.h2) (Ne.symm h.h4) h.h7 h.h8 (by simp) (by simp), bl := h.bl.trans (k.below h.bl.size h.b1l h.c1l) }
theorem Inv.second {w wr w' : World} {b1 : Nat} {r1 : Option Nat} {c1 g1 b2 c2 g2 : Nat} {s1 s2 s' : Rs} (h : Inv w wr b1 r1 c1 g1 b2 c2 g2 s1 s2) (hp : Pair w' b2 none c2 g2 s') (k : Fr wr w' b2 c2) : Inv w w' b1 r1 c1 g1 b2 c2 g2 s1 s' :=
  { h with one := h.one.fr k h.h1 h.h2 h.h3 h.h4 h.h5 h.h6 h.h9 h.h10, two := hp, bl := h.bl.trans (k.below h.bl.size h.b2l h.c2l) }

/-- A zero reader. -/
theorem zeroReader (w : World) : PA (w.alloc (.cells #[.slice none 0 0, .int .i64 0, .int .i64 0, .int .i64 0] 44)) w.heap.size ⟨[], 0, 0⟩ none :=
  .inl ⟨rfl, _, ⟨by simp, by simp, by simp, by simp, by simp, by simp, by simp, by simp, Own.nil _, by simp, by simp, by simp⟩⟩

set_option maxHeartbeats 1000000 in
theorem readerWalk (vb vs : Value) (l : List Nat) (st : List St) (w : World) (hb : BytesAt w vb l) (hl : l.length ≤ 140737488351232) (hst : StepsAt w vs st) :
    Calls Try.prog 5 #[vb, vs] w (Ans w (.bool true)) := by
  have HB : Hid (BytesAt w vb l) := hb
  obtain ⟨a, cap, rfl, hcl, hsn, hcells⟩ := hst
  unfold maxLen at hcl
  have HC : Hid (st ≠ [] → ∃ b off, a = some ⟨b, off, .none⟩ ∧ ∀ j, j < st.length → w.cell? ⟨b, off + j * 3, .none⟩ = some (.int .i64 (st.getD j St.none).k) ∧ w.cell? ⟨b, off + j * 3 + 1, .none⟩ = some (.int .u64 ((st.getD j St.none).n : Int)) ∧ w.cell? ⟨b, off + j * 3 + 2, .none⟩ = some (.string (st.getD j St.none).s)) := hcells
  clear hb hcells hsn
  go_enter Try.func5, Try.ntmps5
  go_wp2_with (at_builtin; refine wpList_append_row _ rfl _ _ 24 24 rfl Try.underlying24 _ _ [] l (some w.heap.size) rfl rfl ?hOwn ?hByte ?hSrc ?hLen ?_)
  case hOwn => exact Own.empty w 5
  case hByte => exact HB.out.byte
  case hSrc => exact src_of Try.underlying24 (HB.out.later ((Below.refl _ _).alloc (Nat.le_refl _) _))
  case hLen => simp; omega
  intro v3 w3 r3 ho3 hg3 hr3 hn3
  have HB3 : Hid (Below w.heap.size w w3) := grow_below (grow_trans (World.grownBy_alloc w _ none) hg3 (.inr (.inr ⟨_, rfl, Nat.le_refl _⟩))) (Nat.le_refl _) (by simp)
  obtain ⟨q3, HO3, HQ3⟩ : ∃ q3, Hid (Own w3 v3 l (some q3)) ∧ Hid (w.heap.size ≤ q3) := by
    rcases hr3 with rfl | rfl
    · exact ⟨_, ho3, Nat.le_refl _⟩
    · exact ⟨_, ho3, by unfold Hid; simp⟩
  clear ho3 hg3 hr3 hn3
  go_wp2_with fail
  refine (pNew v3 l w3 HO3.out.bytes hl).mono ?_
  rintro x w4 ⟨b1, r1, rfl, hp4, hb4, hr4, hbl4⟩
  have HP4 : Hid (PA w4 b1 ⟨l, 0, 0⟩ r1) := hp4
  have HBL4 : Hid (Below w3.heap.size w3 w4) := hbl4
  have HR4 : Hid (∀ q, r1 = some q → w3.heap.size ≤ q ∧ q < w4.heap.size) := hr4
  have HBL4' : Hid (w3.heap.size ≤ b1) := hb4
  clear hp4 hbl4 hr4 hb4
  go_wp2_with fail
  have HZ : Hid (PA (w4.alloc (.cells #[.slice none 0 0, .int .i64 0, .int .i64 0, .int .i64 0] 44)) w4.heap.size ⟨[], 0, 0⟩ none) := zeroReader w4
  have HBZ : Hid (Below w4.heap.size w4 (w4.alloc (.cells #[.slice none 0 0, .int .i64 0, .int .i64 0, .int .i64 0] 44))) := (Below.refl _ _).alloc (Nat.le_refl _) _
  refine (qNew _ l _ (HB.out.later (below_on (below_on HB3.out HBL4.out) HBZ.out)) hl).mono ?_
  rintro x w5 ⟨c1, g1, rfl, hq5, hc5, hg5, hbl5⟩
  have HQ5 : Hid (QA w5 c1 ⟨l, 0, 0⟩ (some g1)) := hq5
  have HBL5 : Hid (Below (w4.heap.size + 1) (w4.alloc (.cells #[.slice none 0 0, .int .i64 0, .int .i64 0, .int .i64 0] 44)) w5) := by unfold Hid; simpa using hbl5
  have HC5 : Hid (w4.heap.size + 1 ≤ c1 ∧ w4.heap.size + 1 ≤ g1) := by unfold Hid; simpa using And.intro hc5 hg5
  have HZ5 : Hid (PA w5 w4.heap.size ⟨[], 0, 0⟩ none) := HZ.out.later hbl5
  have HP5 : Hid (PA w5 b1 ⟨l, 0, 0⟩ r1) := (HP4.out.later HBZ.out).later hbl5
  have HO5 : Hid (Own w5 v3 l (some q3)) := ((HO3.out.later HBL4.out).later HBZ.out).later hbl5
  have HB5 : Hid (Below w.heap.size w w5) := below_on (below_on (below_on HB3.out HBL4.out) HBZ.out) hbl5
  clear hq5 hc5 hg5 hbl5 HZ HBZ
  go_wp2_with fail
  refine (qNew _ [] _ (BytesAt.nil _) (by simp)).mono ?_
  rintro x w6 ⟨c2, g2, rfl, hq6, hc6, hg6, hbl6⟩
  have HQ6 : Hid (QA w6 c2 ⟨[], 0, 0⟩ (some g2)) := hq6
  have HC6 : Hid (w5.heap.size ≤ c2 ∧ w5.heap.size ≤ g2) := ⟨hc6, hg6⟩
  have HINV : Hid (Inv w w6 b1 r1 c1 g1 w4.heap.size c2 g2 ⟨l, 0, 0⟩ ⟨[], 0, 0⟩) := by
    have e1 := HB3.out.size
    have e2 := HBL4.out.size
    have e3 := HBL5.out.size
    have e4 := HP4.out.lt
    have e5 := HQ5.out.lt
    have e6 := HQ5.out.glt
    have e7 := HBL4'.out
    obtain ⟨e8, e9⟩ := HC5.out
    simp at e3
    have hr : ∀ q, r1 = some q → q < w4.heap.size := fun q hq => (HR4.out q hq).2
    refine ⟨⟨HP5.out.later hbl6, HQ5.out.later hbl6, by omega, by omega, fun e => ?_, fun q hq => ?_⟩, ⟨HZ5.out.later hbl6, hq6, by omega, by omega, by simp, by simp⟩, below_on HB5.out hbl6, by omega, by omega, by omega, by omega, by omega, by omega, by omega, by omega, by omega, by omega, by omega, by omega, fun e => ?_, fun e => ?_⟩
    · have := hr _ e; omega
    · have := hr _ hq
      have := hbl6.size
      omega
    · have := hr _ e; omega
    · have := hr _ e; omega
  have HO6 : Hid (Own w6 v3 l (some q3)) := HO5.out.later hbl6
  have HQL : Hid (q3 < w3.heap.size) := HO3.out.lt
  have HSZ : Hid (w3.heap.size ≤ w4.heap.size ∧ w4.heap.size + 1 ≤ w5.heap.size) := ⟨HBL4.out.size, by have := HBL5.out.size; simpa using this⟩
  clear hq6 hc6 hg6 hbl6 HP4 HBL4 HQ5 HBL5 HZ5 HP5 HO5 HB5
  go_wp2_with fail
  refine (marked v3 l (some q3) 6 l.length w6 rfl HO6.out (by decide) hl).mono ?_
  rintro x w7 ⟨v7, r7, rfl, -, hg7, -, -⟩
  have HI7 : Hid (Inv w w7 b1 r1 c1 g1 w4.heap.size c2 g2 ⟨l, 0, 0⟩ ⟨[], 0, 0⟩) := by
    have k := Fr.of_left hg7 q3
    have e1 := HQL.out
    obtain ⟨e2, e3⟩ := HSZ.out
    have e4 := HBL4'.out
    obtain ⟨e5, e6⟩ := HC5.out
    obtain ⟨e7, e8⟩ := HC6.out
    have hr : ∀ q, r1 = some q → q ≠ q3 := fun q hq => by have := (HR4.out q hq).1; omega
    have hi := HINV.out
    exact { hi with
      one := hi.one.fr k (by omega) (by omega) (by omega) (by omega) (by omega) (by omega) (fun e => hr _ e rfl) (fun e => hr _ e rfl)
      two := hi.two.fr k (by omega) (by omega) (by omega) (by omega) (by omega) (by omega) (by simp) (by simp)
      bl := hi.bl.trans (k.below hi.bl.size HQ3.out HQ3.out) }
  clear hg7 HINV HO6 HO3 HQ3 HB3 HR4 HBL4' HC5 HC6 HQL HSZ HQ6
  generalize w4.heap.size = b2 at *
  go_wp2
  go_loopw [11] (fun i wr => ∃ (k : Nat) (s1 s2 : Rs), k ≤ st.length ∧ i = .int .i64 k ∧ Inv w wr b1 r1 c1 g1 b2 c2 g2 s1 s2) (fun i _ => st.length - (intOf i).toNat)
  case atStart => exact ⟨0, _, _, by omega, rfl, HI7.out⟩
  case round =>
    obtain ⟨k, s1, s2, hk, rfl, hi⟩ := hrel
    have HI : Hid (Inv w wr b1 r1 c1 g1 b2 c2 g2 s1 s2) := hi
    clear hi HI7
    by_cases hlt : k < st.length
    · have hne : st ≠ [] := by rintro rfl; simp at hlt
      obtain ⟨b, off, rfl, hc⟩ := HC.out hne
      obtain ⟨c0, d1, d2⟩ := hc k hlt
      generalize st.getD k St.none = x at c0 d1 d2
      obtain ⟨xk, xn, xs⟩ := x
      have HCL : Hid (∀ wx, Below w.heap.size w wx → wx.cell? ⟨b, off + k * 3, .none⟩ = some (.int .i64 xk) ∧ wx.cell? ⟨b, off + k * 3 + 1, .none⟩ = some (.int .u64 (xn : Int)) ∧ wx.cell? ⟨b, off + k * 3 + 2, .none⟩ = some (.string xs)) := fun wx hb =>
        ⟨by rw [hb.cell (p := ⟨b, _, .none⟩) (cell_lt c0)]; exact c0, by rw [hb.cell (p := ⟨b, _, .none⟩) (cell_lt d1)]; exact d1, by rw [hb.cell (p := ⟨b, _, .none⟩) (cell_lt d2)]; exact d2⟩
      clear c0 d1 d2 hc hne
      obtain ⟨c0, d1, d2⟩ := HCL.out wr HI.out.bl
      go_wp2_with fail
      refine (rdLive wr b1 r1 c1 g1 s1 xk xn xs HI.out.one).mono ?_
      rintro e wa ⟨rfl, sa, hpa, hfa⟩
      have HIA : Hid (Inv w wa b1 r1 c1 g1 b2 c2 g2 sa s2) := HI.out.first hpa hfa
      clear hpa hfa c0 d1 d2 HI
      obtain ⟨c0, d1, d2⟩ := HCL.out wa HIA.out.bl
      go_wp2_with fail
      refine (rdLive wa b2 none c2 g2 s2 xk xn xs HIA.out.two).mono ?_
      rintro e wb ⟨rfl, sb, hpb, hfb⟩
      have HIB : Hid (Inv w wb b1 r1 c1 g1 b2 c2 g2 sa sb) := HIA.out.second hpb hfb
      clear hpb hfb c0 d1 d2 HIA
      obtain ⟨c0, d1, d2⟩ := HCL.out wb HIB.out.bl
      go_wp2_with fail
      refine (rdNil wb xk xn xs).mono ?_
      rintro e wc ⟨rfl, hbc⟩
      have HIC : Hid (Inv w wc b1 r1 c1 g1 b2 c2 g2 sa sb) := HIB.out.later hbc
      clear hbc c0 d1 d2 HIB HCL
      go_wp2
      go_roundw
      case rel => exact ⟨k + 1, sa, sb, by omega, by go_num, HIC.out⟩
      case measure => simp [intOf]; omega
    · clear HC
      go_wp2_with fail
      refine (paRest _ b1 s1 r1 HI.out.one.p).mono ?_
      rintro x w1 ⟨rfl, n1, rfl⟩
      go_wp2_with fail
      refine (qaRest _ c1 s1 (some g1) (HI.out.one.q.later (below_drewN (Below.refl _ _) n1))).mono ?_
      rintro x w1 ⟨rfl, n2, rfl⟩
      have hq : ((s1.rest : Int) == (s1.rest : Int)) = true := by simp
      go_wp2_with fail
      refine (paEnd _ b1 s1 r1 (HI.out.one.p.later (below_drewN (Below.refl _ _) _))).mono ?_
      rintro x w3 ⟨rfl, hb3⟩
      have HI3 : Hid (Inv w w3 b1 r1 c1 g1 b2 c2 g2 s1 s2) := (HI.out.later (below_drewN (Below.refl _ _) _)).later hb3
      clear hb3
      go_wp2_with fail
      refine (qaEnd _ c1 s1 (some g1) HI3.out.one.q).mono ?_
      rintro x w4 ⟨rfl, hb4⟩
      have HB4 : Hid (Below w.heap.size w w4) := below_on HI3.out.bl hb4
      clear hb4
      go_wp2
      go_ret
      exact ⟨by simp, HB4.out⟩
end Go.Proofs.Ytbngedfpojnbjac
