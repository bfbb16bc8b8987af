import Derived.Test.YtnfabofngbadlaaCh
/-! The law of the nil disk. -/
namespace Go.Proofs.Ytnfabofngbadlaa
open Go.RowKit Plain
set_option linter.unusedVariables false

/-- The step in its box. -/
structure Box (w : World) (B : Nat) (k : Int) (nm to : ByteArray) (at' n : Int) (vb vp : Value) : Prop where
  lt : B < w.heap.size
  fz : ∀ j, j < 7 → w.frozen? ⟨B, j, none⟩ = false
  c0 : w.cell? ⟨B, 0, none⟩ = some (.int .i64 k)
  c1 : w.cell? ⟨B, 1, none⟩ = some (.string nm)
  c2 : w.cell? ⟨B, 2, none⟩ = some (.string to)
  c3 : w.cell? ⟨B, 3, none⟩ = some (.int .i64 at')
  c4 : w.cell? ⟨B, 4, none⟩ = some (.int .i64 n)
  c5 : w.cell? ⟨B, 5, none⟩ = some vb
  c6 : w.cell? ⟨B, 6, none⟩ = some vp

theorem Box.later {w w' : World} {B : Nat} {k : Int} {nm to : ByteArray} {at' n : Int} {vb vp : Value} (h : Box w B k nm to at' n vb vp) (hb : Below w.heap.size w w') : Box w' B k nm to at' n vb vp :=
  ⟨Nat.lt_of_lt_of_le h.lt hb.size, fun j hj => by rw [hb.frozen (p := ⟨B, j, none⟩) h.lt]; exact h.fz j hj, by rw [hb.cell (p := ⟨B, _, none⟩) h.lt]; exact h.c0, by rw [hb.cell (p := ⟨B, _, none⟩) h.lt]; exact h.c1, by rw [hb.cell (p := ⟨B, _, none⟩) h.lt]; exact h.c2,
    by rw [hb.cell (p := ⟨B, _, none⟩) h.lt]; exact h.c3, by rw [hb.cell (p := ⟨B, _, none⟩) h.lt]; exact h.c4, by rw [hb.cell (p := ⟨B, _, none⟩) h.lt]; exact h.c5, by rw [hb.cell (p := ⟨B, _, none⟩) h.lt]; exact h.c6⟩

theorem Box.set {w : World} {B : Nat} {k k' : Int} {nm to : ByteArray} {at' n : Int} {vb vp : Value} (h : Box w B k nm to at' n vb vp) : Box (w.setCell ⟨B, 0, none⟩ (.int .i64 k')) B k' nm to at' n vb vp :=
  ⟨by have := h.lt; simpa [World.setCell] using this, fun j hj => by rw [← h.fz j hj]; exact World.frozen?_setCells B [.int .i64 k'] 0 w _, by rw [World.cell?_setCell_same _ _ _ h.c0], by rw [World.cell?_setCell_other _ _ _ _ (by simp)]; exact h.c1, by rw [World.cell?_setCell_other _ _ _ _ (by simp)]; exact h.c2,
    by rw [World.cell?_setCell_other _ _ _ _ (by simp)]; exact h.c3, by rw [World.cell?_setCell_other _ _ _ _ (by simp)]; exact h.c4, by rw [World.cell?_setCell_other _ _ _ _ (by simp)]; exact h.c5, by rw [World.cell?_setCell_other _ _ _ _ (by simp)]; exact h.c6⟩

theorem Box.new (w : World) (k : Int) (nm to : ByteArray) (at' n : Int) (vb vp : Value) : Box (w.alloc (.cells #[.int .i64 k, .string nm, .string to, .int .i64 at', .int .i64 n, vb, vp] 44)) w.heap.size k nm to at' n vb vp :=
  ⟨by simp, fun j hj => by simp, by simp, by simp, by simp, by simp, by simp, by simp, by simp⟩

set_option maxHeartbeats 400000 in
theorem nilLaw (k0 : Int) (nm to : ByteArray) (at' n : Int) (vb vp : Value) (l : List Nat) (w : World) (hb : BytesAt w vb l) (hl : l.length ≤ 140737488351232) :
    Calls Try.prog 7 #[.agg #[.int .i64 k0, .string nm, .string to, .int .i64 at', .int .i64 n, vb, vp]] w (Ans w (.bool true)) := by
  have HB : Hid (BytesAt w vb l) := hb
  clear hb
  have HX : Hid (Box (w.alloc (.cells #[.int .i64 k0, .string nm, .string to, .int .i64 at', .int .i64 n, vb, vp] 44)) w.heap.size k0 nm to at' n vb vp) := Box.new ..
  go_enter Try.func7, Try.ntmps7
  go_wp2
  go_loopw [4] (fun i wr => ∃ (k : Nat) (q : Int), 1 ≤ k ∧ k ≤ 8 ∧ i = .int .i64 k ∧ Below w.heap.size w wr ∧ Box wr w.heap.size q nm to at' n vb vp) (fun i _ => 8 - (intOf i).toNat)
  case atStart => exact ⟨1, k0, by omega, by omega, rfl, (Below.refl _ _).alloc (Nat.le_refl _) _, HX.out⟩
  case round =>
    obtain ⟨k, q, h1, h8, rfl, hbl, hx⟩ := hrel
    clear HX
    by_cases hlt : k < 8
    · have hfz := hx.fz 0 (by omega)
      have hold := hx.c0
      have HX2 : Hid (Box (wr.setCell ⟨w.heap.size, 0, none⟩ (.int .i64 (k : Int))) w.heap.size (k : Int) nm to at' n vb vp) := hx.set
      have HB2 : Hid (Below w.heap.size w (wr.setCell ⟨w.heap.size, 0, none⟩ (.int .i64 (k : Int)))) := hbl.setCell (Nat.le_refl _) _
      obtain ⟨s0, s1, s2, s3, s4, s5, s6⟩ := And.intro HX2.out.c0 (And.intro HX2.out.c1 (And.intro HX2.out.c2 (And.intro HX2.out.c3 (And.intro HX2.out.c4 (And.intro HX2.out.c5 HX2.out.c6)))))
      clear hx hbl
      go_wp2_with fail
      refine (changeNil k h1 (by omega) nm to at' n vb vp l _ (HB.out.later HB2.out) hl).mono ?_
      rintro e w1 ⟨rfl, hb⟩
      have HX3 : Hid (Box w1 w.heap.size (k : Int) nm to at' n vb vp) := HX2.out.later hb
      have HB3 : Hid (Below w.heap.size w w1) := HB2.out.trans (hb.mono HB2.out.size)
      clear hb HX2 HB2 s0 s1 s2 s3 s4 s5 s6 hfz hold
      go_wp2
      go_roundw
      case rel => exact ⟨k + 1, k, by omega, by omega, by go_num, HB3.out, HX3.out⟩
      case measure => simp [intOf]; omega
    · obtain rfl : k = 8 := by omega
      have Hwr : Hid (Box wr w.heap.size q nm to at' n vb vp) := hx
      have Bwr : Hid (Below w.heap.size w wr) := hbl
      obtain ⟨s1, s3, s4, s6⟩ := And.intro hx.c1 (And.intro hx.c3 (And.intro hx.c4 hx.c6))
      clear hx hbl
      go_wp2_with fail
      refine (readNil _ _ _ _).mono ?_
      rintro e w1 ⟨rfl, hb⟩
      have Hw1 : Hid (Box w1 w.heap.size q nm to at' n vb vp) := Hwr.out.later hb
      have Bw1 : Hid (Below w.heap.size w w1) := Bwr.out.trans (hb.mono Bwr.out.size)
      clear s1 s3 s4 s6
      clear hb Hwr Bwr
      obtain ⟨s1, s3, s4, s6⟩ := And.intro Hw1.out.c1 (And.intro Hw1.out.c3 (And.intro Hw1.out.c4 Hw1.out.c6))
      go_wp2_with fail
      refine (sizeNil _ _).mono ?_
      rintro e w2 ⟨rfl, hb⟩
      have Hw2 : Hid (Box w2 w.heap.size q nm to at' n vb vp) := Hw1.out.later hb
      have Bw2 : Hid (Below w.heap.size w w2) := Bw1.out.trans (hb.mono Bw1.out.size)
      clear s1 s3 s4 s6
      clear hb Hw1 Bw1
      obtain ⟨s1, s3, s4, s6⟩ := And.intro Hw2.out.c1 (And.intro Hw2.out.c3 (And.intro Hw2.out.c4 Hw2.out.c6))
      go_wp2_with fail
      refine (listNil _).mono ?_
      rintro e w3 ⟨rfl, hb⟩
      have Hw3 : Hid (Box w3 w.heap.size q nm to at' n vb vp) := Hw2.out.later hb
      have Bw3 : Hid (Below w.heap.size w w3) := Bw2.out.trans (hb.mono Bw2.out.size)
      clear s1 s3 s4 s6
      clear hb Hw2 Bw2
      obtain ⟨s1, s3, s4, s6⟩ := And.intro Hw3.out.c1 (And.intro Hw3.out.c3 (And.intro Hw3.out.c4 Hw3.out.c6))
      go_wp2_with fail
      refine (fuseNil _ _).mono ?_
      rintro e w4 ⟨rfl, hb⟩
      have Hw4 : Hid (Box w4 w.heap.size q nm to at' n vb vp) := Hw3.out.later hb
      have Bw4 : Hid (Below w.heap.size w w4) := Bw3.out.trans (hb.mono Bw3.out.size)
      clear s1 s3 s4 s6
      clear hb Hw3 Bw3
      obtain ⟨s1, s3, s4, s6⟩ := And.intro Hw4.out.c1 (And.intro Hw4.out.c3 (And.intro Hw4.out.c4 Hw4.out.c6))
      go_wp2_with fail
      refine (setqNil _ _).mono ?_
      rintro e w5 ⟨rfl, hb⟩
      have Hw5 : Hid (Box w5 w.heap.size q nm to at' n vb vp) := Hw4.out.later hb
      have Bw5 : Hid (Below w.heap.size w w5) := Bw4.out.trans (hb.mono Bw4.out.size)
      clear s1 s3 s4 s6
      clear hb Hw4 Bw4
      obtain ⟨s1, s3, s4, s6⟩ := And.intro Hw5.out.c1 (And.intro Hw5.out.c3 (And.intro Hw5.out.c4 Hw5.out.c6))
      go_wp2_with fail
      refine (usedNil _).mono ?_
      rintro e w6 ⟨rfl, hb⟩
      have Hw6 : Hid (Box w6 w.heap.size q nm to at' n vb vp) := Hw5.out.later hb
      have Bw6 : Hid (Below w.heap.size w w6) := Bw5.out.trans (hb.mono Bw5.out.size)
      clear s1 s3 s4 s6
      clear hb Hw5 Bw5
      obtain ⟨s1, s3, s4, s6⟩ := And.intro Hw6.out.c1 (And.intro Hw6.out.c3 (And.intro Hw6.out.c4 Hw6.out.c6))
      go_wp2_with fail
      refine (quotaNil _).mono ?_
      rintro e w7 ⟨rfl, hb⟩
      have Hw7 : Hid (Box w7 w.heap.size q nm to at' n vb vp) := Hw6.out.later hb
      have Bw7 : Hid (Below w.heap.size w w7) := Bw6.out.trans (hb.mono Bw6.out.size)
      clear s1 s3 s4 s6
      clear hb Hw6 Bw6
      obtain ⟨s1, s3, s4, s6⟩ := And.intro Hw7.out.c1 (And.intro Hw7.out.c3 (And.intro Hw7.out.c4 Hw7.out.c6))
      go_wp2_with fail
      refine (opsNil _).mono ?_
      rintro e w8 ⟨rfl, hb⟩
      have Hw8 : Hid (Box w8 w.heap.size q nm to at' n vb vp) := Hw7.out.later hb
      have Bw8 : Hid (Below w.heap.size w w8) := Bw7.out.trans (hb.mono Bw7.out.size)
      clear s1 s3 s4 s6
      clear hb Hw7 Bw7
      obtain ⟨s1, s3, s4, s6⟩ := And.intro Hw8.out.c1 (And.intro Hw8.out.c3 (And.intro Hw8.out.c4 Hw8.out.c6))
      go_wp2_with fail
      refine (deadNil _).mono ?_
      rintro e w9 ⟨rfl, hb⟩
      have Hw9 : Hid (Box w9 w.heap.size q nm to at' n vb vp) := Hw8.out.later hb
      have Bw9 : Hid (Below w.heap.size w w9) := Bw8.out.trans (hb.mono Bw8.out.size)
      clear s1 s3 s4 s6
      clear hb Hw8 Bw8
      obtain ⟨s1, s3, s4, s6⟩ := And.intro Hw9.out.c1 (And.intro Hw9.out.c3 (And.intro Hw9.out.c4 Hw9.out.c6))
      go_wp2_with fail
      refine (imageNil _).mono ?_
      rintro e w10 ⟨rfl, hb⟩
      have Hw10 : Hid (Box w10 w.heap.size q nm to at' n vb vp) := Hw9.out.later hb
      have Bw10 : Hid (Below w.heap.size w w10) := Bw9.out.trans (hb.mono Bw9.out.size)
      clear s1 s3 s4 s6
      clear hb Hw9 Bw9
      obtain ⟨s1, s3, s4, s6⟩ := And.intro Hw10.out.c1 (And.intro Hw10.out.c3 (And.intro Hw10.out.c4 Hw10.out.c6))
      go_wp2_with fail
      refine (crashNil _ _).mono ?_
      rintro e w11 ⟨rfl, hb⟩
      have Hw11 : Hid (Box w11 w.heap.size q nm to at' n vb vp) := Hw10.out.later hb
      have Bw11 : Hid (Below w.heap.size w w11) := Bw10.out.trans (hb.mono Bw10.out.size)
      clear s1 s3 s4 s6
      clear hb Hw10 Bw10
      obtain ⟨s1, s3, s4, s6⟩ := And.intro Hw11.out.c1 (And.intro Hw11.out.c3 (And.intro Hw11.out.c4 Hw11.out.c6))
      go_wp2
      go_ret
      exact ⟨rfl, Bw11.out⟩
end Go.Proofs.Ytnfabofngbadlaa
