import Derived.Test.YtadflolbgcdncaaShH
/-! The law on Rename: its walk. -/
namespace Go.Proofs.Ytadflolbgcdncaa
open Go.RowKit Go.Maps Plain
set_option linter.unusedVariables false
set_option linter.unusedSimpArgs false

set_option maxHeartbeats 40000000 in
set_option maxRecDepth 1000000 in
theorem renameWalk (va vb : Value) (lo lr : List Nat) (ap : Option Addr) (mp cp : Nat) (ps : List Int) (w : World) (ha : BytesAt w va lo) (hb : BytesAt w vb lr) (hp : PicksAt w (.slice ap mp cp) ps) (hpo : PicksOff w.heap.size (.slice ap mp cp)) :
    Calls Try.prog 3 #[va, vb, .slice ap mp cp] w fun e w' => e = .returned (.bool true) ∧ Below w.heap.size w w' := by
  have h1 := ha
  have h2 := hb
  obtain ⟨a1, c1, rfl, q1, q2, _, _⟩ := h1
  obtain ⟨a2, c2, rfl, q3, q4, _, _⟩ := h2
  unfold maxLen at q2 q4
  obtain ⟨n1, hn1⟩ : ∃ n1, min lo.length 1000 = n1 := ⟨_, rfl⟩
  obtain ⟨n2, hn2⟩ : ∃ n2, min lr.length 1000 = n2 := ⟨_, rfl⟩
  have HM1 : Hid ((if (1000 : Int) < (lo.length : Int) then (1000 : Int) else (lo.length : Int)) = (n1 : Int)) := by unfold Hid; split <;> omega
  have HM2 : Hid ((if (1000 : Int) < (lr.length : Int) then (1000 : Int) else (lr.length : Int)) = (n2 : Int)) := by unfold Hid; split <;> omega
  have HA : Hid (BytesAt w (.slice a1 n1 c1) (lo.take n1)) := ha.take n1 (by omega)
  have HB : Hid (BytesAt w (.slice a2 n2 c2) (lr.take n2)) := hb.take n2 (by omega)
  have hlo : (lo.take n1).length = n1 := by rw [List.length_take]; omega
  have hlr : (lr.take n2).length = n2 := by rw [List.length_take]; omega
  have hn1' : n1 ≤ 1000 := by omega
  have hn2' : n2 ≤ 1000 := by omega
  have hn1c : n1 ≤ lo.length := by omega
  have hn2c : n2 ≤ lr.length := by omega
  have HP : Hid (PicksAt w (.slice ap mp cp) ps ∧ PicksOff w.heap.size (.slice ap mp cp)) := ⟨hp, hpo⟩
  obtain ⟨o, ho⟩ : ∃ o, lo.take n1 = o := ⟨_, rfl⟩
  obtain ⟨f, hf⟩ : ∃ f, lr.take n2 = f := ⟨_, rfl⟩
  rw [ho] at HA hlo
  rw [hf] at HB hlr
  have HOL : Hid (o.length ≤ 1000) := by unfold Hid; omega
  have HFL : Hid (f.length ≤ 1000) := by unfold Hid; omega
  clear ha hb hp hpo ho hf hn1 hn2
  generalize hN1 : lo.length = N1 at *
  generalize hN2 : lr.length = N2 at *
  clear hN1 hN2
  go_enter Try.func3, Try.ntmps3
  go_wp2_with (first
    | (refine wpList_minN (by with_reducible rfl) _ _ 3 3 _ _ _ (by with_reducible rfl) (by rfl) (by rfl) HM1.out ?_)
    | (refine wpList_minN (by with_reducible rfl) _ _ 3 3 _ _ _ (by with_reducible rfl) (by rfl) (by rfl) HM2.out ?_))
  refine (newOf 1073741824 (by omega) (by omega) w).mono ?_
  rintro e w0 ⟨rfl, h0⟩
  have HS : Hid (Dsk w w.heap.size s0 w0) := h0
  clear h0
  go_wp2_with fail
  refine (op1 HS.out).mono ?_
  rintro e w1 ⟨G, rfl, h0⟩
  clear HS
  have HS : Hid (Dsk w w.heap.size (s1 G) w1) := h0
  clear h0
  go_wp2_with fail
  refine (op2 HS.out HOL.out HA.out).mono ?_
  rintro e w2 ⟨rfl, h0⟩
  clear HS
  have HS : Hid (Dsk w w.heap.size (s2 G o) w2) := h0
  clear h0
  go_wp2_with fail
  refine (op3 HS.out HOL.out).mono ?_
  rintro e w3 ⟨rfl, h0⟩
  clear HS
  have HS : Hid (Dsk w w.heap.size (s3 G o) w3) := h0
  clear h0
  go_wp2_with fail
  refine (op4 HS.out HOL.out).mono ?_
  rintro e w4 ⟨H, hGH, rfl, h0⟩
  clear HS
  have HS : Hid (Dsk w w.heap.size (s4 G o H) w4) := h0
  have HNE : Hid (G ≠ H) := hGH
  clear h0 hGH
  go_wp2_with fail
  refine (op5 HS.out HOL.out HFL.out HNE.out HB.out).mono ?_
  rintro e w5 ⟨rfl, h0⟩
  clear HS
  have HS : Hid (Dsk w w.heap.size (s5 G o H f) w5) := h0
  clear h0
  go_wp2_with fail
  refine (op6 HS.out HOL.out HFL.out HNE.out).mono ?_
  rintro e w6 ⟨rfl, h0⟩
  clear HS
  have HS : Hid (Dsk w w.heap.size (s6 G o H f) w6) := h0
  clear h0
  go_wp2_with fail
  refine (op7 HS.out HOL.out HFL.out HNE.out).mono ?_
  rintro e w7 ⟨rfl, h0⟩
  clear HS
  have HS : Hid (Dsk w w.heap.size (s7 G o H f) w7) := h0
  clear h0
  go_wp2_with fail
  refine (op8 HS.out HOL.out HFL.out HNE.out).mono ?_
  rintro e w8 ⟨rfl, h0⟩
  clear HS
  have HS : Hid (Dsk w w.heap.size (s8 G o H f) w8) := h0
  clear h0
  go_wp2_with fail
  refine (op8c HS.out HOL.out HFL.out HNE.out HP.out.1 HP.out.2).mono ?_
  rintro e w9 ⟨l, cc, g, rfl, k1, k2, h0, himg⟩
  clear HS
  have HS : Hid (Dsk w w.heap.size (s8 G o H f) w9) := h0
  clear h0
  rcases himg with ⟨rfl, a3, n3, c3, a4, n4, c4, hE1, hE2⟩ | ⟨rfl, a3, n3, c3, hE1⟩
  · have E1 : Hid (Ent w9 g 0 kA o a3 n3 c3) := hE1
    have E2 : Hid (Ent w9 g 1 kT f a4 n4 c4) := hE2
    clear hE1 hE2
    have x0n : w9.cell? ⟨g, 0, none⟩ = some (.string ⟨#[110, 97, 109, 101]⟩) := E1.out.name
    have x0d : w9.cell? ⟨g, 1, none⟩ = some (.slice a3 n3 c3) := E1.out.data
    have x1n : w9.cell? ⟨g, 2, none⟩ = some (.string ⟨#[110, 97, 109, 101, 46, 116, 109, 112]⟩) := E2.out.name
    have x1d : w9.cell? ⟨g, 3, none⟩ = some (.slice a4 n4 c4) := E2.out.data
    go_wp2_with fail
    refine (sameB _ _ o o _ E1.out.row (HA.out.later HS.out.1)).mono ?_
    rintro e w10 ⟨rfl, hb0⟩
    rw [decide_eq_true (rfl : o = o)]
    have E1' := E1.out.later hb0
    clear E1
    have E1 : Hid _ := E1'
    clear E1'
    have E2' := E2.out.later hb0
    clear E2
    have E2 : Hid _ := E2'
    clear E2'
    have HS' := HS.out.later hb0
    clear HS
    have HS : Hid (Dsk w w.heap.size (s8 G o H f) _) := HS'
    clear HS' hb0
    clear x0n x0d
    clear x1n x1d
    have x0n : w10.cell? ⟨g, 0, none⟩ = some (.string ⟨#[110, 97, 109, 101]⟩) := E1.out.name
    have x0d : w10.cell? ⟨g, 1, none⟩ = some (.slice a3 n3 c3) := E1.out.data
    have x1n : w10.cell? ⟨g, 2, none⟩ = some (.string ⟨#[110, 97, 109, 101, 46, 116, 109, 112]⟩) := E2.out.name
    have x1d : w10.cell? ⟨g, 3, none⟩ = some (.slice a4 n4 c4) := E2.out.data
    go_wp2_with fail
    refine (sameB _ _ f f _ E2.out.row (HB.out.later HS.out.1)).mono ?_
    rintro e w11 ⟨rfl, hb0⟩
    rw [decide_eq_true (rfl : f = f)]
    have E1' := E1.out.later hb0
    clear E1
    have E1 : Hid _ := E1'
    clear E1'
    have E2' := E2.out.later hb0
    clear E2
    have E2 : Hid _ := E2'
    clear E2'
    have HS' := HS.out.later hb0
    clear HS
    have HS : Hid (Dsk w w.heap.size (s8 G o H f) _) := HS'
    clear HS' hb0
    clear x0n x0d
    clear x1n x1d
    have x0n : w11.cell? ⟨g, 0, none⟩ = some (.string ⟨#[110, 97, 109, 101]⟩) := E1.out.name
    have x0d : w11.cell? ⟨g, 1, none⟩ = some (.slice a3 n3 c3) := E1.out.data
    have x1n : w11.cell? ⟨g, 2, none⟩ = some (.string ⟨#[110, 97, 109, 101, 46, 116, 109, 112]⟩) := E2.out.name
    have x1d : w11.cell? ⟨g, 3, none⟩ = some (.slice a4 n4 c4) := E2.out.data
    by_cases hof : o = f
    · go_wp2_with fail
      refine (sameB _ _ o f _ E1.out.row (HB.out.later HS.out.1)).mono ?_
      rintro e w12 ⟨rfl, hb0⟩
      rw [decide_eq_true hof]
      have E1' := E1.out.later hb0
      clear E1
      have E1 : Hid _ := E1'
      clear E1'
      have E2' := E2.out.later hb0
      clear E2
      have E2 : Hid _ := E2'
      clear E2'
      have HS' := HS.out.later hb0
      clear HS
      have HS : Hid (Dsk w w.heap.size (s8 G o H f) _) := HS'
      clear HS' hb0
      clear x0n x0d
      clear x1n x1d
      have x0n : w12.cell? ⟨g, 0, none⟩ = some (.string ⟨#[110, 97, 109, 101]⟩) := E1.out.name
      have x0d : w12.cell? ⟨g, 1, none⟩ = some (.slice a3 n3 c3) := E1.out.data
      have x1n : w12.cell? ⟨g, 2, none⟩ = some (.string ⟨#[110, 97, 109, 101, 46, 116, 109, 112]⟩) := E2.out.name
      have x1d : w12.cell? ⟨g, 3, none⟩ = some (.slice a4 n4 c4) := E2.out.data
      clear hof E1 E2 x0n x0d x1n x1d
      go_wp2_with fail
      refine (op9 HS.out HOL.out HFL.out HNE.out).mono ?_
      rintro e v1 ⟨rfl, h0⟩
      clear HS
      have HS : Hid (Dsk w w.heap.size (s9 G o H f) v1) := h0
      clear h0
      go_wp2_with fail
      refine (op9c HS.out HOL.out HFL.out HNE.out HP.out.1 HP.out.2).mono ?_
      rintro e v2 ⟨cd, g2, a7, n7, c7, rfl, k3, k4, h0, hE3⟩
      clear HS
      have HS : Hid (Dsk w w.heap.size (s9 G o H f) v2) := h0
      have E3 : Hid (Ent v2 g2 0 kA f a7 n7 c7) := hE3
      clear h0 hE3
      have HRD : Hid (Calls Try.prog 17 #[.pointer (some ⟨w.heap.size, 0, none⟩), .string ⟨#[110, 97, 109, 101]⟩, .int .i64 0, .int .i64 ((n2 : Int) + 1)] v2 fun e w2 => ∃ a l c, e = .returned (.tuple #[.slice a l c, .int .i64 0]) ∧ BytesAt w2 (.slice a l c) f ∧ Below v2.heap.size v2 w2) := by
        have := op10 HS.out HOL.out HFL.out HNE.out
        rw [hlr] at this
        exact this
      go_wp2_with fail
      refine HRD.out.mono ?_
      rintro e v3 ⟨a8, n8, c8, rfl, hrd, hb0⟩
      have HR : Hid (BytesAt v3 (.slice a8 n8 c8) f) := hrd
      have E3' := E3.out.later hb0
      clear E3
      have E3 : Hid (Ent v3 g2 0 kA f a7 n7 c7) := E3'
      have HS' := HS.out.later hb0
      clear HS
      have HS : Hid (Dsk w w.heap.size (s9 G o H f) v3) := HS'
      clear hrd hb0 E3' HS' HRD
      have y0n : v3.cell? ⟨g2, 0, none⟩ = some (.string ⟨#[110, 97, 109, 101]⟩) := E3.out.name
      have y0d : v3.cell? ⟨g2, 1, none⟩ = some (.slice a7 n7 c7) := E3.out.data
      go_wp2_with fail
      refine (sameB _ _ f f _ E3.out.row (HB.out.later HS.out.1)).mono ?_
      rintro e v4 ⟨rfl, hb0⟩
      rw [decide_eq_true (rfl : f = f)]
      have HR' := HR.out.later hb0
      clear HR
      have HR : Hid (BytesAt v4 (.slice a8 n8 c8) f) := HR'
      have HS' := HS.out.later hb0
      clear HS
      have HS : Hid (Dsk w w.heap.size (s9 G o H f) v4) := HS'
      clear hb0 HR' HS' y0n y0d
      go_wp2_with fail
      refine (sameB _ _ f f _ HR.out (HB.out.later HS.out.1)).mono ?_
      rintro e v5 ⟨rfl, hb0⟩
      rw [decide_eq_true (rfl : f = f)]
      have HF : Hid (Below w.heap.size w v5) := HS.out.1.trans (hb0.mono HS.out.1.size)
      clear hb0
      go_wp2
      go_ret
      exact ⟨rfl, HF.out⟩
    · go_wp2_with fail
      refine (sameB _ _ o f _ E1.out.row (HB.out.later HS.out.1)).mono ?_
      rintro e w12 ⟨rfl, hb0⟩
      rw [decide_eq_false hof]
      have E1' := E1.out.later hb0
      clear E1
      have E1 : Hid _ := E1'
      clear E1'
      have E2' := E2.out.later hb0
      clear E2
      have E2 : Hid _ := E2'
      clear E2'
      have HS' := HS.out.later hb0
      clear HS
      have HS : Hid (Dsk w w.heap.size (s8 G o H f) _) := HS'
      clear HS' hb0
      clear x0n x0d
      clear x1n x1d
      have x0n : w12.cell? ⟨g, 0, none⟩ = some (.string ⟨#[110, 97, 109, 101]⟩) := E1.out.name
      have x0d : w12.cell? ⟨g, 1, none⟩ = some (.slice a3 n3 c3) := E1.out.data
      have x1n : w12.cell? ⟨g, 2, none⟩ = some (.string ⟨#[110, 97, 109, 101, 46, 116, 109, 112]⟩) := E2.out.name
      have x1d : w12.cell? ⟨g, 3, none⟩ = some (.slice a4 n4 c4) := E2.out.data
      clear hof E1 E2 x0n x0d x1n x1d
      go_wp2_with fail
      refine (op9 HS.out HOL.out HFL.out HNE.out).mono ?_
      rintro e v1 ⟨rfl, h0⟩
      clear HS
      have HS : Hid (Dsk w w.heap.size (s9 G o H f) v1) := h0
      clear h0
      go_wp2_with fail
      refine (op9c HS.out HOL.out HFL.out HNE.out HP.out.1 HP.out.2).mono ?_
      rintro e v2 ⟨cd, g2, a7, n7, c7, rfl, k3, k4, h0, hE3⟩
      clear HS
      have HS : Hid (Dsk w w.heap.size (s9 G o H f) v2) := h0
      have E3 : Hid (Ent v2 g2 0 kA f a7 n7 c7) := hE3
      clear h0 hE3
      have HRD : Hid (Calls Try.prog 17 #[.pointer (some ⟨w.heap.size, 0, none⟩), .string ⟨#[110, 97, 109, 101]⟩, .int .i64 0, .int .i64 ((n2 : Int) + 1)] v2 fun e w2 => ∃ a l c, e = .returned (.tuple #[.slice a l c, .int .i64 0]) ∧ BytesAt w2 (.slice a l c) f ∧ Below v2.heap.size v2 w2) := by
        have := op10 HS.out HOL.out HFL.out HNE.out
        rw [hlr] at this
        exact this
      go_wp2_with fail
      refine HRD.out.mono ?_
      rintro e v3 ⟨a8, n8, c8, rfl, hrd, hb0⟩
      have HR : Hid (BytesAt v3 (.slice a8 n8 c8) f) := hrd
      have E3' := E3.out.later hb0
      clear E3
      have E3 : Hid (Ent v3 g2 0 kA f a7 n7 c7) := E3'
      have HS' := HS.out.later hb0
      clear HS
      have HS : Hid (Dsk w w.heap.size (s9 G o H f) v3) := HS'
      clear hrd hb0 E3' HS' HRD
      have y0n : v3.cell? ⟨g2, 0, none⟩ = some (.string ⟨#[110, 97, 109, 101]⟩) := E3.out.name
      have y0d : v3.cell? ⟨g2, 1, none⟩ = some (.slice a7 n7 c7) := E3.out.data
      go_wp2_with fail
      refine (sameB _ _ f f _ E3.out.row (HB.out.later HS.out.1)).mono ?_
      rintro e v4 ⟨rfl, hb0⟩
      rw [decide_eq_true (rfl : f = f)]
      have HR' := HR.out.later hb0
      clear HR
      have HR : Hid (BytesAt v4 (.slice a8 n8 c8) f) := HR'
      have HS' := HS.out.later hb0
      clear HS
      have HS : Hid (Dsk w w.heap.size (s9 G o H f) v4) := HS'
      clear hb0 HR' HS' y0n y0d
      go_wp2_with fail
      refine (sameB _ _ f f _ HR.out (HB.out.later HS.out.1)).mono ?_
      rintro e v5 ⟨rfl, hb0⟩
      rw [decide_eq_true (rfl : f = f)]
      have HF : Hid (Below w.heap.size w v5) := HS.out.1.trans (hb0.mono HS.out.1.size)
      clear hb0
      go_wp2
      go_ret
      exact ⟨rfl, HF.out⟩
  · have E1 : Hid (Ent w9 g 0 kA f a3 n3 c3) := hE1
    clear hE1
    have x0n : w9.cell? ⟨g, 0, none⟩ = some (.string ⟨#[110, 97, 109, 101]⟩) := E1.out.name
    have x0d : w9.cell? ⟨g, 1, none⟩ = some (.slice a3 n3 c3) := E1.out.data
    by_cases hof : f = o
    · go_wp2_with fail
      refine (sameB _ _ f o _ E1.out.row (HA.out.later HS.out.1)).mono ?_
      rintro e w10 ⟨rfl, hb0⟩
      rw [decide_eq_true hof]
      have E1' := E1.out.later hb0
      clear E1
      have E1 : Hid _ := E1'
      clear E1'
      have HS' := HS.out.later hb0
      clear HS
      have HS : Hid (Dsk w w.heap.size (s8 G o H f) _) := HS'
      clear HS' hb0
      clear x0n x0d
      have x0n : w10.cell? ⟨g, 0, none⟩ = some (.string ⟨#[110, 97, 109, 101]⟩) := E1.out.name
      have x0d : w10.cell? ⟨g, 1, none⟩ = some (.slice a3 n3 c3) := E1.out.data
      clear hof
      go_wp2_with fail
      refine (sameB _ _ f f _ E1.out.row (HB.out.later HS.out.1)).mono ?_
      rintro e w12 ⟨rfl, hb0⟩
      rw [decide_eq_true (rfl : f = f)]
      have E1' := E1.out.later hb0
      clear E1
      have E1 : Hid _ := E1'
      clear E1'
      have HS' := HS.out.later hb0
      clear HS
      have HS : Hid (Dsk w w.heap.size (s8 G o H f) _) := HS'
      clear HS' hb0
      clear x0n x0d
      have x0n : w12.cell? ⟨g, 0, none⟩ = some (.string ⟨#[110, 97, 109, 101]⟩) := E1.out.name
      have x0d : w12.cell? ⟨g, 1, none⟩ = some (.slice a3 n3 c3) := E1.out.data
      clear E1 x0n x0d
      go_wp2_with fail
      refine (op9 HS.out HOL.out HFL.out HNE.out).mono ?_
      rintro e v1 ⟨rfl, h0⟩
      clear HS
      have HS : Hid (Dsk w w.heap.size (s9 G o H f) v1) := h0
      clear h0
      go_wp2_with fail
      refine (op9c HS.out HOL.out HFL.out HNE.out HP.out.1 HP.out.2).mono ?_
      rintro e v2 ⟨cd, g2, a7, n7, c7, rfl, k3, k4, h0, hE3⟩
      clear HS
      have HS : Hid (Dsk w w.heap.size (s9 G o H f) v2) := h0
      have E3 : Hid (Ent v2 g2 0 kA f a7 n7 c7) := hE3
      clear h0 hE3
      have HRD : Hid (Calls Try.prog 17 #[.pointer (some ⟨w.heap.size, 0, none⟩), .string ⟨#[110, 97, 109, 101]⟩, .int .i64 0, .int .i64 ((n2 : Int) + 1)] v2 fun e w2 => ∃ a l c, e = .returned (.tuple #[.slice a l c, .int .i64 0]) ∧ BytesAt w2 (.slice a l c) f ∧ Below v2.heap.size v2 w2) := by
        have := op10 HS.out HOL.out HFL.out HNE.out
        rw [hlr] at this
        exact this
      go_wp2_with fail
      refine HRD.out.mono ?_
      rintro e v3 ⟨a8, n8, c8, rfl, hrd, hb0⟩
      have HR : Hid (BytesAt v3 (.slice a8 n8 c8) f) := hrd
      have E3' := E3.out.later hb0
      clear E3
      have E3 : Hid (Ent v3 g2 0 kA f a7 n7 c7) := E3'
      have HS' := HS.out.later hb0
      clear HS
      have HS : Hid (Dsk w w.heap.size (s9 G o H f) v3) := HS'
      clear hrd hb0 E3' HS' HRD
      have y0n : v3.cell? ⟨g2, 0, none⟩ = some (.string ⟨#[110, 97, 109, 101]⟩) := E3.out.name
      have y0d : v3.cell? ⟨g2, 1, none⟩ = some (.slice a7 n7 c7) := E3.out.data
      go_wp2_with fail
      refine (sameB _ _ f f _ E3.out.row (HB.out.later HS.out.1)).mono ?_
      rintro e v4 ⟨rfl, hb0⟩
      rw [decide_eq_true (rfl : f = f)]
      have HR' := HR.out.later hb0
      clear HR
      have HR : Hid (BytesAt v4 (.slice a8 n8 c8) f) := HR'
      have HS' := HS.out.later hb0
      clear HS
      have HS : Hid (Dsk w w.heap.size (s9 G o H f) v4) := HS'
      clear hb0 HR' HS' y0n y0d
      go_wp2_with fail
      refine (sameB _ _ f f _ HR.out (HB.out.later HS.out.1)).mono ?_
      rintro e v5 ⟨rfl, hb0⟩
      rw [decide_eq_true (rfl : f = f)]
      have HF : Hid (Below w.heap.size w v5) := HS.out.1.trans (hb0.mono HS.out.1.size)
      clear hb0
      go_wp2
      go_ret
      exact ⟨rfl, HF.out⟩
    · go_wp2_with fail
      refine (sameB _ _ f o _ E1.out.row (HA.out.later HS.out.1)).mono ?_
      rintro e w10 ⟨rfl, hb0⟩
      rw [decide_eq_false hof]
      have E1' := E1.out.later hb0
      clear E1
      have E1 : Hid _ := E1'
      clear E1'
      have HS' := HS.out.later hb0
      clear HS
      have HS : Hid (Dsk w w.heap.size (s8 G o H f) _) := HS'
      clear HS' hb0
      clear x0n x0d
      have x0n : w10.cell? ⟨g, 0, none⟩ = some (.string ⟨#[110, 97, 109, 101]⟩) := E1.out.name
      have x0d : w10.cell? ⟨g, 1, none⟩ = some (.slice a3 n3 c3) := E1.out.data
      clear hof
      go_wp2_with fail
      refine (sameB _ _ f f _ E1.out.row (HB.out.later HS.out.1)).mono ?_
      rintro e w12 ⟨rfl, hb0⟩
      rw [decide_eq_true (rfl : f = f)]
      have E1' := E1.out.later hb0
      clear E1
      have E1 : Hid _ := E1'
      clear E1'
      have HS' := HS.out.later hb0
      clear HS
      have HS : Hid (Dsk w w.heap.size (s8 G o H f) _) := HS'
      clear HS' hb0
      clear x0n x0d
      have x0n : w12.cell? ⟨g, 0, none⟩ = some (.string ⟨#[110, 97, 109, 101]⟩) := E1.out.name
      have x0d : w12.cell? ⟨g, 1, none⟩ = some (.slice a3 n3 c3) := E1.out.data
      clear E1 x0n x0d
      go_wp2_with fail
      refine (op9 HS.out HOL.out HFL.out HNE.out).mono ?_
      rintro e v1 ⟨rfl, h0⟩
      clear HS
      have HS : Hid (Dsk w w.heap.size (s9 G o H f) v1) := h0
      clear h0
      go_wp2_with fail
      refine (op9c HS.out HOL.out HFL.out HNE.out HP.out.1 HP.out.2).mono ?_
      rintro e v2 ⟨cd, g2, a7, n7, c7, rfl, k3, k4, h0, hE3⟩
      clear HS
      have HS : Hid (Dsk w w.heap.size (s9 G o H f) v2) := h0
      have E3 : Hid (Ent v2 g2 0 kA f a7 n7 c7) := hE3
      clear h0 hE3
      have HRD : Hid (Calls Try.prog 17 #[.pointer (some ⟨w.heap.size, 0, none⟩), .string ⟨#[110, 97, 109, 101]⟩, .int .i64 0, .int .i64 ((n2 : Int) + 1)] v2 fun e w2 => ∃ a l c, e = .returned (.tuple #[.slice a l c, .int .i64 0]) ∧ BytesAt w2 (.slice a l c) f ∧ Below v2.heap.size v2 w2) := by
        have := op10 HS.out HOL.out HFL.out HNE.out
        rw [hlr] at this
        exact this
      go_wp2_with fail
      refine HRD.out.mono ?_
      rintro e v3 ⟨a8, n8, c8, rfl, hrd, hb0⟩
      have HR : Hid (BytesAt v3 (.slice a8 n8 c8) f) := hrd
      have E3' := E3.out.later hb0
      clear E3
      have E3 : Hid (Ent v3 g2 0 kA f a7 n7 c7) := E3'
      have HS' := HS.out.later hb0
      clear HS
      have HS : Hid (Dsk w w.heap.size (s9 G o H f) v3) := HS'
      clear hrd hb0 E3' HS' HRD
      have y0n : v3.cell? ⟨g2, 0, none⟩ = some (.string ⟨#[110, 97, 109, 101]⟩) := E3.out.name
      have y0d : v3.cell? ⟨g2, 1, none⟩ = some (.slice a7 n7 c7) := E3.out.data
      go_wp2_with fail
      refine (sameB _ _ f f _ E3.out.row (HB.out.later HS.out.1)).mono ?_
      rintro e v4 ⟨rfl, hb0⟩
      rw [decide_eq_true (rfl : f = f)]
      have HR' := HR.out.later hb0
      clear HR
      have HR : Hid (BytesAt v4 (.slice a8 n8 c8) f) := HR'
      have HS' := HS.out.later hb0
      clear HS
      have HS : Hid (Dsk w w.heap.size (s9 G o H f) v4) := HS'
      clear hb0 HR' HS' y0n y0d
      go_wp2_with fail
      refine (sameB _ _ f f _ HR.out (HB.out.later HS.out.1)).mono ?_
      rintro e v5 ⟨rfl, hb0⟩
      rw [decide_eq_true (rfl : f = f)]
      have HF : Hid (Below w.heap.size w v5) := HS.out.1.trans (hb0.mono HS.out.1.size)
      clear hb0
      go_wp2
      go_ret
      exact ⟨rfl, HF.out⟩
end Go.Proofs.Ytadflolbgcdncaa
