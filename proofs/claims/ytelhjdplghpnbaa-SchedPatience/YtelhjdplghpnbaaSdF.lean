import Derived.Test.YtelhjdplghpnbaaSdE
import Derived.Test.YtelhjdplghpnbaaSdCt
import Derived.Laws.StructEq
/-! The law on classes: its walk. -/
namespace Go.Proofs.Ytelhjdplghpnbaa
open Go.RowKit Plain
set_option linter.unusedVariables false
set_option linter.unusedSimpArgs false

theorem run_eqlA4 (u : World) (e : Nat) (f0 f1 f2 f3 : Int) (he : ∀ (a : Int) (u : World), (Op.equalIn e 3 (.int .i64 a) (.int .i64 a)).run Try.prog u = .ok true u) : (Op.equalIn (e + 1) 24 (.agg #[.int .i64 f0, .int .i64 f1, .int .i64 f2, .int .i64 f3]) (.agg #[.int .i64 f0, .int .i64 f1, .int .i64 f2, .int .i64 f3])).run Try.prog u = .ok true u := by
  have hs : ∀ u, (sizeOf 3).run Try.prog u = .ok 1 u := fun u => by simp [go_sem, Try.sizeOf3]
  have h0 : ∀ u, (part 3 #[.int .i64 f0, .int .i64 f1, .int .i64 f2, .int .i64 f3] 0).run Try.prog u = .ok (.int .i64 f0) u := fun u => by simp [part, go_sem, Try.sizeOf3, Try.isAgg3]
  have h1 : ∀ u, (part 3 #[.int .i64 f0, .int .i64 f1, .int .i64 f2, .int .i64 f3] 1).run Try.prog u = .ok (.int .i64 f1) u := fun u => by simp [part, go_sem, Try.sizeOf3, Try.isAgg3]
  have h2 : ∀ u, (part 3 #[.int .i64 f0, .int .i64 f1, .int .i64 f2, .int .i64 f3] 2).run Try.prog u = .ok (.int .i64 f2) u := fun u => by simp [part, go_sem, Try.sizeOf3, Try.isAgg3]
  have h3 : ∀ u, (part 3 #[.int .i64 f0, .int .i64 f1, .int .i64 f2, .int .i64 f3] 3).run Try.prog u = .ok (.int .i64 f3) u := fun u => by simp [part, go_sem, Try.sizeOf3, Try.isAgg3]
  simp only [Op.equalIn, Sem.run_bind, run_underlying Try.underlying24, Result.andThen_ok, hs]
  rw [Std.Legacy.Range.forIn_eq_forIn_range']
  simp only [Std.Legacy.Range.size, show List.range' 0 4 1 = [0, 1, 2, 3] from rfl]
  simp [List.forIn_cons, Sem.run_bind, h0, h1, h2, h3, he, Result.andThen_ok]
theorem run_eqlCls (u : World) (f0 f1 f2 f3 : Int) : (binOp .eql 26 (.agg #[.int .i64 f0, .int .i64 f1, .int .i64 f2, .int .i64 f3]) (.agg #[.int .i64 f0, .int .i64 f1, .int .i64 f2, .int .i64 f3])).run Try.prog u = .ok (.bool true) u := by
  rw [run_eql_struct, run_equalIn_struct u 9999 26 _ _ (by kernel_rfl) (by kernel_rfl)]
  have hf : ((Try.prog.fieldsOf 26).toList.map fun f => (f.type, f.offset, f.name == "_")) = [(24, 0, false)] := by kernel_rfl
  have ha := run_eqlA4 u 9998 f0 f1 f2 f3 (fun a u => run_equalIn_int u 9997 3 .i64 .i64 a a Try.underlying3 |>.trans (by simp))
  generalize (Try.prog.fieldsOf 26).toList = L at hf
  cases L with
  | nil => simp at hf
  | cons x L =>
    cases L with
    | cons y L => simp at hf
    | nil =>
      simp at hf
      obtain ⟨e1, e2, e3⟩ := hf
      have hp : (part 24 #[.int .i64 f0, .int .i64 f1, .int .i64 f2, .int .i64 f3] 0).run Try.prog u = .ok (.agg #[.int .i64 f0, .int .i64 f1, .int .i64 f2, .int .i64 f3]) u := by simp [part, go_sem, Try.sizeOf24, Try.isAgg24]
      simp [Op.eqFields, e1, e2, e3, Sem.run_bind, hp, ha]
/-- What the program's Class must answer. -/
def ClassOk : Prop := ∀ (c : Nat → Int) (b : Nat → Bool) (pick : Int) (u : World), I64 pick → (∀ i, i < 4 → I64 (c i)) → Calls Try.prog 9 #[clsV c, wrkV b, .int .i64 pick] u fun e w' => e = .returned (.tuple #[clsV (classL c b pick).1, .int .i64 (classL c b pick).2]) ∧ Below u.heap.size u w'
set_option maxHeartbeats 4000000 in
set_option maxRecDepth 1000000 in
theorem classWalk (hpc : ClassOk) (c : Nat → Int) (b : Nat → Bool) (pick : Int) (hp : I64 pick) (hc : ∀ i, i < 4 → I64 (c i)) (w : World) : Calls Try.prog 4 #[clsV c, wrkV b, .int .i64 pick] w fun e w' => e = .returned (.bool true) ∧ Below w.heap.size w w' := by
  have HQ : Hid (∀ u, Calls Try.prog 9 #[clsV c, wrkV b, .int .i64 pick] u fun e w' => e = .returned (.tuple #[clsV (classL c b pick).1, .int .i64 (classL c b pick).2]) ∧ Below u.heap.size u w') := fun u => hpc c b pick u hp hc
  have HR : Hid (∀ u, Calls Try.prog 10 #[clsV c, wrkV b, .int .i64 pick] u fun e w' => e = .returned (.tuple #[clsV (classL c b pick).1, .int .i64 (classL c b pick).2]) ∧ Below u.heap.size u w') := fun u => rclassOf c b pick u
  clear hpc hp hc
  generalize (classL c b pick).1 = F at *
  generalize (classL c b pick).2 = N at *
  unfold clsV wrkV at *
  generalize F 0 = f0 at *
  generalize F 1 = f1 at *
  generalize F 2 = f2 at *
  generalize F 3 = f3 at *
  generalize c 0 = c0 at *
  generalize c 1 = c1 at *
  generalize c 2 = c2 at *
  generalize c 3 = c3 at *
  generalize b 0 = b0 at *
  generalize b 1 = b1 at *
  generalize b 2 = b2 at *
  generalize b 3 = b3 at *
  obtain ⟨w1, hw1⟩ : ∃ w1, w.alloc (.cells #[.int .i64 c0, .int .i64 c1, .int .i64 c2, .int .i64 c3] 26) = w1 := ⟨_, rfl⟩
  obtain ⟨w2, hw2⟩ : ∃ w2, w1.alloc (.cells #[.bool b0, .bool b1, .bool b2, .bool b3] 27) = w2 := ⟨_, rfl⟩
  have s1 : w1.heap.size = w.heap.size + 1 := by rw [← hw1]; simp
  have s2 : w2.heap.size = w.heap.size + 2 := by rw [← hw2]; simp [s1]
  have e1 : Below w.heap.size w w1 := by rw [← hw1]; exact (Below.refl _ _).alloc (Nat.le_refl _) _
  have e2 : Below w1.heap.size w1 w2 := by rw [← hw2]; exact (Below.refl _ _).alloc (Nat.le_refl _) _
  have x1 : w1.heap[w.heap.size]? = some (.cells #[.int .i64 c0, .int .i64 c1, .int .i64 c2, .int .i64 c3] 26) := by rw [← hw1]; show (w.heap.push _)[w.heap.size]? = _; simp
  have x2 : w2.heap[w1.heap.size]? = some (.cells #[.bool b0, .bool b1, .bool b2, .bool b3] 27) := by rw [← hw2]; show (w1.heap.push _)[w1.heap.size]? = _; simp
  obtain ⟨B, hB⟩ : ∃ B, w.heap.size = B := ⟨_, rfl⟩
  obtain ⟨D, hD⟩ : ∃ D, w1.heap.size = D := ⟨_, rfl⟩
  have y1 := (e2.block w.heap.size (by omega)).trans x1
  rw [hB] at y1
  rw [hD] at x2
  have HA : Hid (∀ u, Below w2.heap.size w2 u → (u.cell? ⟨B, 0, none⟩ = some (.int .i64 c0) ∧ u.cell? ⟨B, 1, none⟩ = some (.int .i64 c1) ∧ u.cell? ⟨B, 2, none⟩ = some (.int .i64 c2) ∧ u.cell? ⟨B, 3, none⟩ = some (.int .i64 c3)) ∧ u.cell? ⟨D, 0, none⟩ = some (.bool b0) ∧ u.cell? ⟨D, 1, none⟩ = some (.bool b1) ∧ u.cell? ⟨D, 2, none⟩ = some (.bool b2) ∧ u.cell? ⟨D, 3, none⟩ = some (.bool b3)) := fun u hu => by
    have z1 := (hu.block B (by omega)).trans y1
    have z2 := (hu.block D (by omega)).trans x2
    simp [World.cell?, z1, z2]
  have HB2 : Hid (Below w.heap.size w w2) := e1.trans (e2.mono e1.size)
  obtain ⟨⟨p0, p1, p2, p3⟩, q0, q1, q2, q3⟩ := HA.out _ (Below.refl _ _)
  clear x1 x2 y1 e1 e2 s1 s2
  go_enter Try.func4, Try.ntmps4
  go_wp2_with fail
  refine (HQ.out _).mono ?_
  rintro e w3 ⟨rfl, hb3⟩
  obtain ⟨w4, hw4⟩ : ∃ w4, w3.alloc (.cells #[.int .i64 f0, .int .i64 f1, .int .i64 f2, .int .i64 f3] 26) = w4 := ⟨_, rfl⟩
  obtain ⟨A, hA⟩ : ∃ A, w3.heap.size = A := ⟨_, rfl⟩
  have hb4 : Below w3.heap.size w3 w4 := by rw [← hw4]; exact (Below.refl _ _).alloc (Nat.le_refl _) _
  have x4 : w4.heap[A]? = some (.cells #[.int .i64 f0, .int .i64 f1, .int .i64 f2, .int .i64 f3] 26) := by rw [← hw4, ← hA]; show (w3.heap.push _)[w3.heap.size]? = _; simp
  have hAl : A < w4.heap.size := (Array.getElem?_eq_some_iff.mp x4).1
  have hb24 : Below w2.heap.size w2 w4 := hb3.trans (hb4.mono hb3.size)
  clear p0 p1 p2 p3 q0 q1 q2 q3
  obtain ⟨⟨p0, p1, p2, p3⟩, q0, q1, q2, q3⟩ := HA.out _ hb24
  have HX4 := Hid.mkS x4
  have HB4 := Hid.mkS hb24
  have HAL := Hid.mkS hAl
  clear x4 hAl hb3 hb4 hb24
  go_wp2_with fail
  refine (HR.out _).mono ?_
  rintro e w5 ⟨rfl, hb5⟩
  obtain ⟨w6, hw6⟩ : ∃ w6, w5.alloc (.cells #[.int .i64 f0, .int .i64 f1, .int .i64 f2, .int .i64 f3] 26) = w6 := ⟨_, rfl⟩
  obtain ⟨E, hE⟩ : ∃ E, w5.heap.size = E := ⟨_, rfl⟩
  have hb6 : Below w5.heap.size w5 w6 := by rw [← hw6]; exact (Below.refl _ _).alloc (Nat.le_refl _) _
  have x6 : w6.heap[E]? = some (.cells #[.int .i64 f0, .int .i64 f1, .int .i64 f2, .int .i64 f3] 26) := by rw [← hw6, ← hE]; show (w5.heap.push _)[w5.heap.size]? = _; simp
  have hb46 : Below w4.heap.size w4 w6 := hb5.trans (hb6.mono hb5.size)
  have x46 := (hb46.block A HAL.out).trans HX4.out
  have t0 : w6.cell? ⟨A, 0, none⟩ = some (.int .i64 f0) := by simp [World.cell?, x46]
  have t1 : w6.cell? ⟨A, 1, none⟩ = some (.int .i64 f1) := by simp [World.cell?, x46]
  have t2 : w6.cell? ⟨A, 2, none⟩ = some (.int .i64 f2) := by simp [World.cell?, x46]
  have t3 : w6.cell? ⟨A, 3, none⟩ = some (.int .i64 f3) := by simp [World.cell?, x46]
  have u0 : w6.cell? ⟨E, 0, none⟩ = some (.int .i64 f0) := by simp [World.cell?, x6]
  have u1 : w6.cell? ⟨E, 1, none⟩ = some (.int .i64 f1) := by simp [World.cell?, x6]
  have u2 : w6.cell? ⟨E, 2, none⟩ = some (.int .i64 f2) := by simp [World.cell?, x6]
  have u3 : w6.cell? ⟨E, 3, none⟩ = some (.int .i64 f3) := by simp [World.cell?, x6]
  have HF : Hid (Below w.heap.size w w6) := HB2.out.trans ((HB4.out.trans (hb46.mono HB4.out.size)).mono HB2.out.size)
  clear p0 p1 p2 p3 q0 q1 q2 q3 x6 x46 hb5 hb6 hb46 HX4 HB4 HAL HA HQ HR
  have hqq : ∀ u, (binOp .eql 26 (.agg #[.int .i64 f0, .int .i64 f1, .int .i64 f2, .int .i64 f3]) (.agg #[.int .i64 f0, .int .i64 f1, .int .i64 f2, .int .i64 f3])).run Try.prog u = .ok (.bool true) u := fun u => run_eqlCls u f0 f1 f2 f3
  have hgd : Try.prog.eqGuardType Try.prog.depth 26 = false := by kernel_rfl
  go_wp2
  go_ret
  exact ⟨by first | rfl | simp, by first | exact HF.out | (rw [← hB]; exact HF.out)⟩
end Go.Proofs.Ytelhjdplghpnbaa
