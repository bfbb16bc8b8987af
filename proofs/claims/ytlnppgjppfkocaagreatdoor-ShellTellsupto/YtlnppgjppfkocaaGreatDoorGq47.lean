import Derived.Test.YtlnppgjppfkocaaGreatDoorGq05
import Derived.Test.YtlnppgjppfkocaaGreatDoorGq46
import Derived.Test.YtlnppgjppfkocaaGreatDoorGq34
/-! The length of a response's line. -/
namespace Go.Proofs.YtlnppgjppfkocaaGreatDoor.Xs
open Go.RowKit
set_option linter.unusedVariables false
set_option linter.unusedSimpArgs false

/-! ### The line's length -/
def SmN (l : List By) : Prop := ∀ x ∈ l, x.length ≤ 1048577
def SmR (l : List Sr) : Prop := ∀ x ∈ l, x.Ok ∧ x.key.length ≤ 1048577 ∧ x.value.length ≤ 1048577
theorem sp_mostV {M : Nat} : ∀ (l : List By), (∀ x ∈ l, x.length ≤ M) → (sp l).length ≤ l.length * (M + 1)
  | [], _ => by simp [sp]
  | x :: l, h => by
    have h1 := sp_mostV l (fun y hy => h y (by simp [hy]))
    have h2 := h x (by simp)
    unfold sp at *
    rw [List.flatMap_cons, List.length_append, List.length_cons, List.length_cons, Nat.add_mul]
    omega
theorem names_parts : ∀ (l : List By), (l.flatMap nameT).length = 2 * l.length
  | [] => rfl
  | x :: l => by rw [List.flatMap_cons, List.length_append, names_parts l]; simp [nameT]; omega
theorem recs_parts : ∀ (l : List Sr), (l.flatMap recT).length = 7 * l.length
  | [] => rfl
  | x :: l => by rw [List.flatMap_cons, List.length_append, recs_parts l]; simp [recT]; omega
theorem show_len {r : Rp} (ok : r.Ok) (h1 : r.names.length ≤ 1048576) (h2 : r.recs.length ≤ 1048576) (h3 : SmN r.names) (h4 : SmR r.recs) : (showL r).length ≤ 70368744177664 := by
  have hid := itoa_len (n := r.id) (by have := ok.id1; omega) (by have := ok.id2; omega)
  have hpart : ∀ x ∈ showT r, x.length ≤ 4194310 := by
    intro x hx
    unfold showT restT at hx
    simp only [List.mem_append, List.mem_cons, List.not_mem_nil, or_false, List.mem_flatMap] at hx
    rcases hx with (e | e | e | e | e) | ⟨y, hy, hx⟩ | ⟨y, hy, hx⟩
    · rw [e]; have := op_len r.op ok.op; omega
    · rw [e]; have := code_len r.code ok.code; omega
    · rw [e]; have := itoa_len ok.offset.1 ok.offset.2; omega
    · rw [e]; have := itoa_len ok.number.1 ok.number.2; omega
    · rw [e]
      have e1 : moreW.length = 4 := rfl
      have e2 : lastW.length = 4 := rfl
      split <;> omega
    · simp only [nameT, List.mem_cons, List.not_mem_nil, or_false] at hx
      rcases hx with e | e
      · rw [e]
        have e1 : nameW.length = 4 := rfl
        omega
      · rw [e]
        have := txt_len y
        have := h3 y hy
        omega
    · obtain ⟨k1, k2, k3⟩ := h4 y hy
      simp only [recT, List.mem_cons, List.not_mem_nil, or_false] at hx
      rcases hx with e | e | e | e | e | e | e
      · rw [e]; have := kind_len y.kind k1.kind; omega
      · rw [e]; have := itoa_len k1.offset.1 k1.offset.2; omega
      · rw [e]; have := itoa_len k1.time.1 k1.time.2; omega
      · rw [e]; have := itoa_len k1.pid.1 k1.pid.2; omega
      · rw [e]; have := itoa_len k1.seq.1 k1.seq.2; omega
      · rw [e]; have := txt_len y.key; omega
      · rw [e]; have := txt_len y.value; omega
  have h5 := sp_mostV _ hpart
  have h6 : (showT r).length ≤ 9437189 := by
    unfold showT restT
    rw [List.length_append, List.length_append, names_parts, recs_parts]
    simp only [List.length_cons, List.length_nil]
    omega
  rw [show showL r = Lib.itoa r.id ++ sp (showT r) from join_sp _ _, List.length_append]
  have h7 : (showT r).length * (4194310 + 1) ≤ 9437189 * (4194310 + 1) := Nat.mul_le_mul_right _ h6
  omega

end Go.Proofs.YtlnppgjppfkocaaGreatDoor.Xs

/-! What the program's Show answers. -/
namespace Go.Proofs.YtlnppgjppfkocaaGreatDoor.Xs
open Go.RowKit
set_option linter.unusedVariables false

/-- A response of a size that can be told. -/
structure SmP (r : Rp) : Prop where
  names : r.names.length ≤ 1048576
  recs : r.recs.length ≤ 1048576
  smn : SmN r.names
  smr : SmR r.recs
/-- WHAT Show ANSWERS. -/
def ShowOk (Tb : World → Prop) : Prop := ∀ (r : Rp) (vr vn : Value) (w : World), Tb w → SrsAt w vr r.recs → NmsAt w vn r.names → r.Ok → SmP r → (showL r).length ≤ 70368744177664 →
  Calls Tryz.prog 18 #[rpV r vr vn] w fun e w' => e = .returned (.string (ba (showL r))) ∧ Below w.heap.size w w'
end Go.Proofs.YtlnppgjppfkocaaGreatDoor.Xs

/-! ShellTells's walk. -/
namespace Go.Proofs.YtlnppgjppfkocaaGreatDoor.Xs
open Go.RowKit Plain
set_option linter.unusedVariables false
set_option linter.unusedSimpArgs false

set_option maxHeartbeats 16000000 in
set_option maxRecDepth 100000 in
theorem tellsWalk {Tb : World → Prop} (hTb : Kept Tb) (hP : PrintOk Tb) (hR : ParseOk Tb) (hS : ShowOk Tb) (a b : Rp) (va na vb nb : Value) (w : World) (h1 : SrsAt w va a.recs) (h2 : NmsAt w na a.names) (k1 : SrsAt w vb b.recs) (k2 : NmsAt w nb b.names)
    (oka : a.Ok) (okb : b.Ok) (sma : SmP a) (smb : SmP b) (hla : (showL a).length ≤ 70368744177664) (hlb : (showL b).length ≤ 70368744177664) (ht : Tb w) :
    Calls Tryz.prog 7 #[rpV a va na, rpV b vb nb] w fun e w' => e = .returned (.bool true) ∧ Below w.heap.size w w' := by
  have HTB : Hid (∀ u, Below w.heap.size w u → Tb u) := fun u hu => hTb w u ht hu
  have H1 := mkH h1
  have H2 := mkH h2
  have K1 := mkH k1
  have K2 := mkH k2
  obtain ⟨a1, c1, rfl, _⟩ := h1
  obtain ⟨a2, c2, rfl, _⟩ := h2
  obtain ⟨a3, c3, rfl, _⟩ := k1
  obtain ⟨a4, c4, rfl, _⟩ := k2
  obtain ⟨wa, hwa⟩ : ∃ w0, w.alloc (.cells (rpA a (.slice a1 a.recs.length c1) (.slice a2 a.names.length c2)) 45) = w0 := ⟨_, rfl⟩
  obtain ⟨w0, hw0⟩ : ∃ w0, wa.alloc (.cells (rpA b (.slice a3 b.recs.length c3) (.slice a4 b.names.length c4)) 45) = w0 := ⟨_, rfl⟩
  have hsa : wa.heap.size = w.heap.size + 1 := by rw [← hwa]; simp
  have HBA : Hid (Below w.heap.size w wa) := by rw [← hwa]; exact (rpBox w a _ _ 45).1
  have HBB : Hid (Below wa.heap.size wa w0) := by rw [← hw0]; exact (rpBox wa b _ _ 45).1
  have HB0 : Hid (Below w.heap.size w w0) := below_on HBA.out HBB.out
  have HX : Hid (∀ u, Below w0.heap.size w0 u → RpAt u w.heap.size a (.slice a1 a.recs.length c1) (.slice a2 a.names.length c2)) := fun u hu => by
    have h := (rpBox w a (.slice a1 a.recs.length c1) (.slice a2 a.names.length c2) 45).2
    rw [hwa] at h
    exact (h.later HBB.out).later hu
  have HY : Hid (∀ u, Below w0.heap.size w0 u → RpAt u (w.heap.size + 1) b (.slice a3 b.recs.length c3) (.slice a4 b.names.length c4)) := fun u hu => by
    have h := (rpBox wa b (.slice a3 b.recs.length c3) (.slice a4 b.names.length c4) 45).2
    rw [hw0, hsa] at h
    exact h.later hu
  have HRD : Hid (∀ u, Below w0.heap.size w0 u → SrsAt u (.slice a1 a.recs.length c1) a.recs ∧ NmsAt u (.slice a2 a.names.length c2) a.names ∧ SrsAt u (.slice a3 b.recs.length c3) b.recs ∧ NmsAt u (.slice a4 b.names.length c4) b.names) := fun u hu =>
    ⟨(H1.out.later HB0.out).later hu, (H2.out.later HB0.out).later hu, (K1.out.later HB0.out).later hu, (K2.out.later HB0.out).later hu⟩
  have HSA : Hid (Calls Tryz.prog 18 #[rpV a (.slice a1 a.recs.length c1) (.slice a2 a.names.length c2)] w0 fun e w' => e = .returned (.string (ba (showL a))) ∧ Below w0.heap.size w0 w') := hS a _ _ w0 (HTB.out _ HB0.out) (HRD.out w0 (Below.refl _ _)).1 (HRD.out w0 (Below.refl _ _)).2.1 oka sma hla
  have HSB : Hid (∀ u, Below w0.heap.size w0 u → Calls Tryz.prog 18 #[rpV b (.slice a3 b.recs.length c3) (.slice a4 b.names.length c4)] u fun e w' => e = .returned (.string (ba (showL b))) ∧ Below u.heap.size u w') := fun u hu => hS b _ _ u (HTB.out _ (below_on HB0.out hu)) (HRD.out u hu).2.2.1 (HRD.out u hu).2.2.2 okb smb hlb
  have HWK := mkH (fun u (hu : Tb u) => lworksOf hTb hP hR u hu)
  have HEQ : Hid (∀ u, Below w0.heap.size w0 u → Calls Tryz.prog 19 #[rpV a (.slice a1 a.recs.length c1) (.slice a2 a.names.length c2), rpV b (.slice a3 b.recs.length c3) (.slice a4 b.names.length c4)] u fun e w' => EqP a b e ∧ Below u.heap.size u w') := fun u hu => lequalOf a b _ _ _ _ u (HRD.out u hu).1 (HRD.out u hu).2.1 (HRD.out u hu).2.2.1 (HRD.out u hu).2.2.2
  have HV : Hid (∀ u, Calls Tryz.prog 12 #[.string (ba (showL a))] u fun e w' => e = .returned (.bool true) ∧ w' = u) := fun u => lvisibleOf (showL a) (by omega) (show_vis a) u
  have hne : showL a ≠ [] := show_ne a
  have HIJ : Hid (showL a = showL b → a = b) := show_inj
  have HJI : Hid (a = b → showL a = showL b) := fun e => by rw [e]
  obtain ⟨m0, m1, m2, m3, m4, m5, m6, m7⟩ := HX.out w0 (Below.refl _ _)
  clear H1 H2 K1 K2 HRD hla hlb
  generalize showL a = s at *
  generalize showL b = t at *
  go_enter Tryz.func7, Tryz.ntmps7
  go_wp2_with fail
  refine HSA.out.mono ?_
  rintro e w1 ⟨rfl, hb1⟩
  clear m0 m1 m2 m3 m4 m5 m6 m7 HSA
  obtain ⟨n0, n1, n2, n3, n4, n5, n6, n7⟩ := HY.out w1 hb1
  go_wp2_with fail
  refine (HSB.out _ hb1).mono ?_
  rintro e w2 ⟨rfl, hb2⟩
  have HB2 : Hid (Below w0.heap.size w0 w2) := below_on hb1 hb2
  clear hb1 hb2 n0 n1 n2 n3 n4 n5 n6 n7 HSB
  go_wp2_with fail
  refine (HWK.out _ (HTB.out _ (below_on HB0.out HB2.out))).mono ?_
  rintro e w3 ⟨rfl, hb3⟩
  have HB3 : Hid (Below w0.heap.size w0 w3) := below_on HB2.out hb3
  obtain ⟨m0, m1, m2, m3, m4, m5, m6, m7⟩ := HX.out w3 HB3.out
  obtain ⟨n0, n1, n2, n3, n4, n5, n6, n7⟩ := HY.out w3 HB3.out
  clear hb3 HWK HB2 HX HY
  go_wp2_with fail
  refine (HEQ.out _ HB3.out).mono ?_
  rintro e w4 ⟨⟨q, rfl, hq⟩, hb4⟩
  have HB4 : Hid (Below w.heap.size w w4) := below_on HB0.out (below_on HB3.out hb4)
  have hst : (s == t) = q := by
    rw [Bool.eq_iff_iff, hq, beq_iff_eq]
    exact ⟨HIJ.out, HJI.out⟩
  have hqq : (q == q) = true := by cases q <;> rfl
  clear hb4 HEQ HB3 hq HIJ HJI m0 m1 m2 m3 m4 m5 m6 m7 n0 n1 n2 n3 n4 n5 n6 n7
  rw [hst]
  clear hst hqq
  have hn2 : (s == []) = false := by simpa using hne
  have hn3 : s.isEmpty = false := by simpa using hne
  cases q
  all_goals
    go_wp2_with fail
    refine (HV.out _).mono ?_
    rintro e w5 ⟨rfl, rfl⟩
    go_wp2
    go_ret
    exact ⟨rfl, HB4.out⟩
end Go.Proofs.YtlnppgjppfkocaaGreatDoor.Xs

/-! The program's Show. -/
namespace Go.Proofs.YtlnppgjppfkocaaGreatDoor.Xs
open Go.RowKit Plain
set_option linter.unusedVariables false
set_option linter.unusedSimpArgs false

/-- The eight cells of a response in its box. -/
structure RbAt (u : World) (X : Nat) (r : Rp) (vr vn : Value) : Prop where
  c0 : u.cell? ⟨X, 0, none⟩ = some (.int .u32 r.id)
  c1 : u.cell? ⟨X, 1, none⟩ = some (.int .i64 r.op)
  c2 : u.cell? ⟨X, 2, none⟩ = some (.int .i64 r.code)
  c3 : u.cell? ⟨X, 3, none⟩ = some (.int .i64 r.offset)
  c4 : u.cell? ⟨X, 4, none⟩ = some (.int .i64 r.number)
  c5 : u.cell? ⟨X, 5, none⟩ = some (.bool r.more)
  c6 : u.cell? ⟨X, 6, none⟩ = some vr
  c7 : u.cell? ⟨X, 7, none⟩ = some vn
theorem RbAt.kp {P : Nat → Prop} {w w' : World} {X : Nat} {r : Rp} {vr vn : Value} (h : RbAt w X r vr vn) (k : Kp P w w') (hb : P X) : RbAt w' X r vr vn :=
  ⟨(k.cell hb).trans h.c0, (k.cell hb).trans h.c1, (k.cell hb).trans h.c2, (k.cell hb).trans h.c3, (k.cell hb).trans h.c4, (k.cell hb).trans h.c5, (k.cell hb).trans h.c6, (k.cell hb).trans h.c7⟩
theorem sr_at {u : World} {n c : Nat} {a : Option Addr} {l : List Sr} (h : SrsAt u (.slice a n c) l) {k : Nat} (hk : k < l.length) : ∃ b off, a = some ⟨b, off, none⟩ ∧ SrAt u b (off + k * 7) (l.getD k Sr.none) := by
  obtain ⟨_, _, e, _, _, _, hc⟩ := h
  cases e
  obtain ⟨b, off, e, hcc⟩ := hc (fun e => by rw [e] at hk; simp at hk)
  exact ⟨b, off, e, hcc k hk⟩
theorem nm_at {u : World} {b off n c : Nat} {a : Option Addr} {l : List By} (h : NmsAt u (.slice a n c) l) {k : Nat} (hk : k < l.length) : ∃ b off, a = some ⟨b, off, none⟩ ∧ u.cell? ⟨b, off + k, none⟩ = some (.string (ba (l.getD k []))) := by
  obtain ⟨_, _, e, _, _, _, hc⟩ := h
  cases e
  obtain ⟨b, off, e, hcc⟩ := hc (fun e => by rw [e] at hk; simp at hk)
  exact ⟨b, off, e, hcc k hk⟩
set_option maxHeartbeats 32000000 in
set_option maxRecDepth 100000 in
theorem showOfQ (r : Rp) (vr vn : Value) (w : World) (hT : Tab w) (hr : SrsAt w vr r.recs) (hn : NmsAt w vn r.names) (ok : r.Ok) (hlen : (showL r).length ≤ 70368744177664) (b1 : r.names.length ≤ 1048576) (b2 : r.recs.length ≤ 1048576) (b3 : SmN r.names) (b4 : SmR r.recs) :
    Calls Tryz.prog 18 #[rpV r vr vn] w fun e w' => e = .returned (.string (ba (showL r))) ∧ Below w.heap.size w w' := by
  obtain ⟨id, op, code, fo, nu, mo, recs, names⟩ := r
  obtain ⟨i1, i2, o1, o2, o3, o4⟩ := ok
  simp only at hr hn i1 i2 o1 o2 o3 o4 b1 b2 b3 b4
  obtain ⟨W1, hW1⟩ : ∃ W1, w.alloc (.cells #[.int .u32 id, .int .i64 op, .int .i64 code, .int .i64 fo, .int .i64 nu, .bool mo, vr, vn] 45) = W1 := ⟨_, rfl⟩
  have HB1 : Hid (Below w.heap.size w W1) := by
    unfold Hid
    rw [← hW1]
    exact (Below.refl _ _).alloc (Nat.le_refl _) _
  have hbx : ∀ k v, (#[.int .u32 id, .int .i64 op, .int .i64 code, .int .i64 fo, .int .i64 nu, .bool mo, vr, vn] : Array Value)[k]? = some v → W1.cell? ⟨w.heap.size, k, none⟩ = some v := fun k v e => by
    rw [← hW1, World.cell?_alloc_at _ _ _ _ rfl]; exact e
  have hX0l := cell_lt (hbx 0 _ rfl)
  simp only at hX0l
  obtain ⟨W2, hW2⟩ : ∃ W2, W1.alloc (.cells #[.slice none 0 0] 56) = W2 := ⟨_, rfl⟩
  have HB2 : Hid (Below W1.heap.size W1 W2) := by
    unfold Hid
    rw [← hW2]
    exact (Below.refl _ _).alloc (Nat.le_refl _) _
  have hs2 : W2.heap.size = W1.heap.size + 1 := by rw [← hW2]; simp
  have HW2 : Hid (Wr (· = w.heap.size) w W2 W1.heap.size []) := by
    have hf : W2.frozen? ⟨W1.heap.size, 0, none⟩ = false := by rw [← hW2]; exact World.frozen?_alloc_at _ _ _ _ rfl
    have hc : W2.cell? ⟨W1.heap.size, 0, none⟩ = some (.slice none 0 0) := by rw [← hW2, World.cell?_alloc_at _ _ _ _ rfl]; rfl
    have := HB1.out.size
    exact ⟨⟨_, none, hc, hf, OwnV.nil _, by simp, by simp⟩, this, by omega, HB1.out.trans (HB2.out.mono this), fun b e => by rw [e]; omega⟩
  have HZ2 : Hid (RbAt W2 w.heap.size ⟨id, op, code, fo, nu, mo, recs, names⟩ vr vn) := by
    have k : ∀ k v, (#[.int .u32 id, .int .i64 op, .int .i64 code, .int .i64 fo, .int .i64 nu, .bool mo, vr, vn] : Array Value)[k]? = some v → W2.cell? ⟨w.heap.size, k, none⟩ = some v := fun k v e => (HB2.out.cell hX0l).trans (hbx k v e)
    exact ⟨k 0 _ rfl, k 1 _ rfl, k 2 _ rfl, k 3 _ rfl, k 4 _ rfl, k 5 _ rfl, k 6 _ rfl, k 7 _ rfl⟩
  have HNm : Hid (∀ u, Below w.heap.size w u → NmsAt u vn names) := fun u hu => hn.later hu
  have HRc : Hid (∀ u, Below w.heap.size w u → SrsAt u vr recs) := fun u hu => hr.later hu
  have HTb : Hid (∀ u, Below w.heap.size w u → Tab u) := fun u hu => hT.later hu
  obtain ⟨X0, hX0⟩ : ∃ X0, w.heap.size = X0 := ⟨_, rfl⟩
  obtain ⟨g, hg⟩ : ∃ g, W1.heap.size = g := ⟨_, rfl⟩
  rw [hX0, hg] at HW2
  rw [hX0] at HZ2
  have HZ : Hid (∀ u, Kp (· = X0) W2 u → RbAt u X0 ⟨id, op, code, fo, nu, mo, recs, names⟩ vr vn) := fun u hu => HZ2.out.kp hu rfl
  have y0 := HZ2.out.c0
  simp only at y0
  clear HZ2
  have hid : I64 id := ⟨by omega, by omega⟩
  have HC0 : Hid (Calls Tryz.prog 34 #[.pointer (some ⟨g, 0, none⟩), .int .i64 id] W2 fun e w' => e = .returned (.tuple #[]) ∧ Wr (· = X0) w w' g ([] ++ [Lib.itoa id]) ∧ Kp (· = X0) W2 w') := numOf id hid (· = X0) w _ g [] hT HW2.out (by simp)
  clear hbx hX0l hs2 hn hr hT HB1 HB2 hid
  go_enter Tryz.func18, Tryz.ntmps18
  go_wp2_with (go_at_call 34; refine HC0.out.mono ?_; rintro e w3 ⟨rfl, hw3, hk3⟩)
  have HW3 := mkW hw3
  have HK3 := mkW hk3
  have q1 := (HZ.out _ HK3.out).c1
  simp only at q1
  clear hw3 hk3 y0 HC0 HW2
  refine wp_region_noPanic ?_
  refine Till.start 5 (S := fun u => u.cell? ⟨X0, 1, none⟩ = some (.int .i64 op)) (by kernel_rfl) q1 (fun hHeld => ?_)
  refine' Till.take 0 rfl (by kernel_rfl) (by kernel_rfl) (by kernel_rfl) (by kernel_rfl) (fun _ _ _ h => h) (Or.inl ⟨by rfl, ?_⟩) (by assumption) ?_
  rotate_left
  · (intro w hSw; (try dsimp only at hSw); go_simp <;> with_reducible rfl)
  try simp only [Act.put, List.setIfInBounds_toArray, List.set_cons_zero, List.set_cons_succ]
  refine' Till.take 2 rfl (by kernel_rfl) (by kernel_rfl) (by kernel_rfl) (by kernel_rfl) (fun _ _ _ h => h) (Or.inl ⟨by rfl, ?_⟩) (by assumption) ?_
  rotate_left
  · (intro w hSw; (try dsimp only at hSw); go_simp <;> with_reducible rfl)
  try simp only [Act.put, List.setIfInBounds_toArray, List.set_cons_zero, List.set_cons_succ]
  refine' Till.take 3 rfl (by kernel_rfl) (by kernel_rfl) (by kernel_rfl) (by kernel_rfl) (fun _ _ _ h => h) (Or.inl ⟨by rfl, ?_⟩) (by assumption) ?_
  rotate_left
  · (intro w hSw; (try dsimp only at hSw); go_simp <;> with_reducible rfl)
  try simp only [Act.put, List.setIfInBounds_toArray, List.set_cons_zero, List.set_cons_succ]
  refine Till.one 1 (by kernel_rfl) rfl (fun K hK => ?_)
  go_simp
  go_at_call 36
  refine (opWordsOf _).mono ?_
  rintro e wa4 ⟨va4, rfl, hna, hba⟩
  refine hK.out _ _ ?_ (fun hHeld => ?_)
  · exact (hba.cell (cell_lt q1)).trans q1
  clear hK K
  try simp only [Act.put, List.setIfInBounds_toArray, List.set_cons_zero, List.set_cons_succ]
  have hWa : Wr (· = X0) w wa4 g _ := HW3.out.drew.later hba
  have hKa : Kp (· = X0) w3 wa4 := (HW3.out.kp (Below.refl _ w3).drew).trans (HW3.out.drew.kp hba)
  have sa0 : wa4.cell? ⟨X0, 1, none⟩ = some (.int .i64 op) := (hba.cell (cell_lt q1)).trans q1
  refine Till.one 4 (by kernel_rfl) rfl (fun K hK => ?_)
  go_simp
  go_at_call 35
  refine (namedOf opsL va4 op o1 opP (by decide) _ hna (HTb.out _ hWa.bel)).mono ?_
  rintro e wb4 ⟨rfl, hbb⟩
  refine hK.out _ _ ?_ (fun hHeld => ?_)
  · exact (hbb.cell (cell_lt sa0)).trans sa0
  clear hK K
  try simp only [Act.put, List.setIfInBounds_toArray, List.set_cons_zero, List.set_cons_succ]
  refine Till.last (by kernel_rfl) (by kernel_rfl) rfl (fun K hK => ?_)
  go_simp
  go_at_call 22
  refine (wordOf _ (· = X0) w _ g _ (hWa.later hbb) (by simp)).mono ?_
  rintro e wc4 ⟨rfl, hWc, hKc⟩
  refine hK.out _ _ ?_
  clear hK K
  try simp only [Act.put, List.setIfInBounds_toArray, List.set_cons_zero, List.set_cons_succ]
  refine NoPanic.normal ?_
  rw [named_op] at hWc
  have HW4 := mkW hWc
  have HK4 : Hid (Kp (· = X0) w3 wc4) := hKa.trans ((hWa.kp hbb).trans hKc)
  clear hWc hWa hKa hKc hba hbb hna sa0 hHeld
  have HK4' : Hid (Kp (· = X0) W2 wc4) := HK3.out.trans HK4.out
  have q2 := (HZ.out _ HK4'.out).c2
  simp only at q2
  clear q1 HW3 HK3 HK4
  go_wp2_with fail
  refine wp_region_noPanic ?_
  refine Till.start 5 (S := fun u => u.cell? ⟨X0, 2, none⟩ = some (.int .i64 code)) (by kernel_rfl) q2 (fun hHeld => ?_)
  refine' Till.take 0 rfl (by kernel_rfl) (by kernel_rfl) (by kernel_rfl) (by kernel_rfl) (fun _ _ _ h => h) (Or.inl ⟨by rfl, ?_⟩) (by assumption) ?_
  rotate_left
  · (intro w hSw; (try dsimp only at hSw); go_simp <;> with_reducible rfl)
  try simp only [Act.put, List.setIfInBounds_toArray, List.set_cons_zero, List.set_cons_succ]
  refine' Till.take 2 rfl (by kernel_rfl) (by kernel_rfl) (by kernel_rfl) (by kernel_rfl) (fun _ _ _ h => h) (Or.inl ⟨by rfl, ?_⟩) (by assumption) ?_
  rotate_left
  · (intro w hSw; (try dsimp only at hSw); go_simp <;> with_reducible rfl)
  try simp only [Act.put, List.setIfInBounds_toArray, List.set_cons_zero, List.set_cons_succ]
  refine' Till.take 3 rfl (by kernel_rfl) (by kernel_rfl) (by kernel_rfl) (by kernel_rfl) (fun _ _ _ h => h) (Or.inl ⟨by rfl, ?_⟩) (by assumption) ?_
  rotate_left
  · (intro w hSw; (try dsimp only at hSw); go_simp <;> with_reducible rfl)
  try simp only [Act.put, List.setIfInBounds_toArray, List.set_cons_zero, List.set_cons_succ]
  refine Till.one 1 (by kernel_rfl) rfl (fun K hK => ?_)
  go_simp
  go_at_call 37
  refine (codeWordsOf _).mono ?_
  rintro e wa5 ⟨va5, rfl, hna, hba⟩
  refine hK.out _ _ ?_ (fun hHeld => ?_)
  · exact (hba.cell (cell_lt q2)).trans q2
  clear hK K
  try simp only [Act.put, List.setIfInBounds_toArray, List.set_cons_zero, List.set_cons_succ]
  have hWa : Wr (· = X0) w wa5 g _ := HW4.out.drew.later hba
  have hKa : Kp (· = X0) wc4 wa5 := (HW4.out.kp (Below.refl _ wc4).drew).trans (HW4.out.drew.kp hba)
  have sa0 : wa5.cell? ⟨X0, 2, none⟩ = some (.int .i64 code) := (hba.cell (cell_lt q2)).trans q2
  refine Till.one 4 (by kernel_rfl) rfl (fun K hK => ?_)
  go_simp
  go_at_call 35
  refine (namedOf cW va5 code o2 codeP (by decide) _ hna (HTb.out _ hWa.bel)).mono ?_
  rintro e wb5 ⟨rfl, hbb⟩
  refine hK.out _ _ ?_ (fun hHeld => ?_)
  · exact (hbb.cell (cell_lt sa0)).trans sa0
  clear hK K
  try simp only [Act.put, List.setIfInBounds_toArray, List.set_cons_zero, List.set_cons_succ]
  refine Till.last (by kernel_rfl) (by kernel_rfl) rfl (fun K hK => ?_)
  go_simp
  go_at_call 22
  refine (wordOf _ (· = X0) w _ g _ (hWa.later hbb) (by simp)).mono ?_
  rintro e wc5 ⟨rfl, hWc, hKc⟩
  refine hK.out _ _ ?_
  clear hK K
  try simp only [Act.put, List.setIfInBounds_toArray, List.set_cons_zero, List.set_cons_succ]
  refine NoPanic.normal ?_
  rw [named_code] at hWc
  have HW5 := mkW hWc
  have HK5 : Hid (Kp (· = X0) wc4 wc5) := hKa.trans ((hWa.kp hbb).trans hKc)
  clear hWc hWa hKa hKc hba hbb hna sa0 hHeld
  have HK5' : Hid (Kp (· = X0) W2 wc5) := HK4'.out.trans HK5.out
  have q3 := (HZ.out _ HK5'.out).c3
  simp only at q3
  clear q2 HW4 HK4' HK5
  have HQ4 : Hid (∀ u, Kp (· = X0) W2 u → u.cell? ⟨X0, 4, none⟩ = some (.int .i64 nu)) := fun u hu => (HZ.out u hu).c4
  have HQ5 : Hid (∀ u, Kp (· = X0) W2 u → u.cell? ⟨X0, 5, none⟩ = some (.bool mo)) := fun u hu => (HZ.out u hu).c5
  have HQ7 : Hid (∀ u, Kp (· = X0) W2 u → u.cell? ⟨X0, 7, none⟩ = some vn) := fun u hu => (HZ.out u hu).c7
  have HQ6 : Hid (∀ u, Kp (· = X0) W2 u → u.cell? ⟨X0, 6, none⟩ = some vr) := fun u hu => (HZ.out u hu).c6
  have HC5 : Hid (Calls Tryz.prog 34 #[.pointer (some ⟨g, 0, none⟩), .int .i64 fo] wc5 fun e w' => e = .returned (.tuple #[]) ∧ Wr (· = X0) w w' g _ ∧ Kp (· = X0) wc5 w') := numOf fo o3 (· = X0) w _ g _ (HTb.out _ (Below.refl _ _)) HW5.out (by simp)
  go_wp2_with (go_at_call_of 34 (Value.int .i64 fo); refine HC5.out.mono ?_; rintro e w6 ⟨rfl, hw6, hk6⟩; have q4 := HQ4.out w6 (HK5'.out.trans hk6))
  have HW6 := mkW hw6
  have HK6 : Hid (Kp (· = X0) W2 w6) := HK5'.out.trans hk6
  have HC6 : Hid (Calls Tryz.prog 34 #[.pointer (some ⟨g, 0, none⟩), .int .i64 nu] w6 fun e w' => e = .returned (.tuple #[]) ∧ Wr (· = X0) w w' g _ ∧ Kp (· = X0) w6 w') := numOf nu o4 (· = X0) w _ g _ (HTb.out _ (Below.refl _ _)) HW6.out (by simp)
  clear HC5 q3 hw6 hk6 HW5 HK5'
  go_wp2_with (go_at_call 34; refine HC6.out.mono ?_; rintro e w7 ⟨rfl, hw7, hk7⟩; have q5 := HQ5.out w7 (HK6.out.trans hk7))
  have HW7 := mkW hw7
  have HK7 : Hid (Kp (· = X0) W2 w7) := HK6.out.trans hk7
  clear HC6 q4 hw7 hk7 HW6 HK6
  obtain ⟨ex, hex⟩ : ∃ ex, (if mo = true then moreW else lastW) = ex := ⟨_, rfl⟩
  have HEx : Hid (∀ u, Calls Tryz.prog 38 #[.bool mo] u fun e w' => e = .returned (.string (ba ex)) ∧ Below u.heap.size u w') := fun u => by rw [← hex]; exact extentOf mo u
  have HEX := mkW hex
  clear hex
  go_wp2_with (go_at_call 38; refine (HEx.out _).mono ?_; rintro e w8 ⟨rfl, hb8⟩)
  have HK8 : Hid (Kp (· = X0) W2 w8) := HK7.out.trans (HW7.out.kp hb8)
  have HW8 := mkW (HW7.out.later hb8)
  have HC8 : Hid (Calls Tryz.prog 22 #[.pointer (some ⟨g, 0, none⟩), .string (ba ex)] w8 fun e w' => e = .returned (.tuple #[]) ∧ Wr (· = X0) w w' g _ ∧ Kp (· = X0) w8 w') := wordOf _ (· = X0) w _ g _ HW8.out (by simp)
  clear HW7 HK7 q5 hb8
  obtain ⟨an, cn, rfl, hn0, hn1, hn2, hn3⟩ := HNm.out w (Below.refl _ _)
  go_wp2_with (go_at_call 22; refine HC8.out.mono ?_; rintro e w9 ⟨rfl, hw9, hk9⟩; have q7 := HQ7.out w9 (HK8.out.trans hk9))
  have HW9 := mkW hw9
  have HK9 : Hid (Kp (· = X0) W2 w9) := HK8.out.trans hk9
  clear HC8 hw9 hk9 HW8 HK8 q7
  obtain ⟨l9, hl9⟩ : ∃ l9, ([] ++ [Lib.itoa id] ++ [opT op] ++ [codeT code] ++ [Lib.itoa fo] ++ [Lib.itoa nu] ++ [ex] : List By) = l9 := ⟨_, rfl⟩
  have hl9n : l9.length = 6 := by rw [← hl9]; rfl
  rw [hl9] at HW9
  have HL9 : Hid (l9 ++ names.flatMap nameT ++ recs.flatMap recT = Lib.itoa id :: showT ⟨id, op, code, fo, nu, mo, recs, names⟩) := by
    unfold Hid
    rw [← hl9, ← HEX.out]
    simp [showT, restT]
  clear hl9 HEX HEx
  clear hn0 hn1 hn3
  have HB3 := mkW b3
  go_loopw [43] (fun i wl => ∃ (k : Nat), k ≤ names.length ∧ i = .int .i64 k ∧ Hid (Wr (· = X0) w wl g (l9 ++ (names.take k).flatMap nameT)) ∧ Hid (Kp (· = X0) W2 wl)) (fun i _ => names.length + 10 - (intOf i).toNat)
  case atStart => exact ⟨0, Nat.zero_le _, rfl, by simpa using HW9, HK9⟩
  case round =>
    clear HW9 HK9
    obtain ⟨k, hk, rfl, HW, HK⟩ := hrel
    by_cases hp : k < names.length
    · have hki : (k : Int) < (names.length : Int) := by omega
      obtain ⟨bn, obn, rfl, cn1⟩ := nm_at (b := 0) (off := 0) (HNm.out wr HW.out.bel) hp
      have hyl : (names.getD k []).length ≤ 1048577 := HB3.out _ (by rw [List.getD_eq_getElem?_getD, List.getElem?_eq_getElem hp]; exact List.getElem_mem hp)
      have HT : Hid (l9 ++ (names.take k).flatMap nameT ++ [nameW] ++ [txt (names.getD k [])] = l9 ++ (names.take (k + 1)).flatMap nameT) := by
        unfold Hid
        rw [getD_snoc [] hp, List.flatMap_append]
        simp [nameT]
      have hll : (l9 ++ (names.take k).flatMap nameT).length ≤ 2097160 := by
        rw [List.length_append, names_parts, List.length_take]; omega
      obtain ⟨lk, hlk⟩ : ∃ lk, l9 ++ (names.take k).flatMap nameT = lk := ⟨_, rfl⟩
      rw [hlk] at HW HT hll
      obtain ⟨y, hy⟩ : ∃ y, names.getD k [] = y := ⟨_, rfl⟩
      rw [hy] at cn1 hyl HT
      have HCa : Hid (Calls Tryz.prog 22 #[.pointer (some ⟨g, 0, none⟩), .string (ba nameW)] wr fun e w' => e = .returned (.tuple #[]) ∧ Wr (· = X0) w w' g (lk ++ [nameW]) ∧ Kp (· = X0) wr w') := wordOf nameW (· = X0) w _ g lk HW.out (by omega)
      have HCb : Hid (∀ u, Wr (· = X0) w u g (lk ++ [nameW]) → Calls Tryz.prog 39 #[.pointer (some ⟨g, 0, none⟩), .string (ba y)] u fun e w' => e = .returned (.tuple #[]) ∧ Wr (· = X0) w w' g (lk ++ [nameW] ++ [txt y]) ∧ Kp (· = X0) u w') := fun u hu => textOf y (by omega) (· = X0) w _ g _ hu (by rw [List.length_append]; simp; omega)
      clear hlk hy hyl
      go_wp2_with (go_at_call 22; refine HCa.out.mono ?_; rintro e wd ⟨rfl, hwd, hkd⟩)
      have HWd := mkW hwd
      have HKd := mkW (HK.out.trans hkd)
      clear hwd hkd HCa HW HK cn1
      go_wp2_with (go_at_call 39; refine (HCb.out _ HWd.out).mono ?_; rintro e we ⟨rfl, hwe, hke⟩)
      have HWe := mkW hwe
      have HKe := mkW (HKd.out.trans hke)
      rw [HT.out] at HWe
      clear hwe hke HCb HWd HKd HT
      go_wp2
      go_roundw
      case rel => exact ⟨k + 1, by omega, by go_num, HWe, HKe⟩
      case measure => (first | (simp [intOf]; omega) | omega | (show _ < _; simp only [intOf]; omega))
    · have hki : ¬ (k : Int) < (names.length : Int) := by omega
      have hke : k = names.length := by omega
      subst hke
      rw [List.take_length] at HW
      obtain ⟨l10, hl10⟩ : ∃ l, l9 ++ names.flatMap nameT = l := ⟨_, rfl⟩
      have hl10n : l10.length ≤ 2097160 := by rw [← hl10, List.length_append, names_parts]; omega
      rw [hl10] at HW HL9
      have q6 := HQ6.out wr HK.out
      obtain ⟨ar, cr, rfl, hr0, hr1, hr2, hr3⟩ := HRc.out w (Below.refl _ _)
      clear hl10 hr0 hr3 HB3 HNm
      have HWs := HW
      have HKs := HK
      clear HW HK
      go_wp2_with fail
      clear q6
      go_loopw [56] (fun i wl => ∃ (k : Nat), k ≤ recs.length ∧ i = .int .i64 k ∧ Hid (Wr (· = X0) w wl g (l10 ++ (recs.take k).flatMap recT)) ∧ Hid (Kp (· = X0) W2 wl)) (fun i _ => recs.length + 10 - (intOf i).toNat)
      case atStart => exact ⟨0, Nat.zero_le _, rfl, by simpa using HWs, HKs⟩
      case round =>
        clear HWs HKs
        obtain ⟨k, hk, rfl, HW, HK⟩ := hrel
        by_cases hp : k < recs.length
        · have hki : (k : Int) < (recs.length : Int) := by omega
          obtain ⟨br, obr, rfl, cx⟩ := sr_at (HRc.out wr HW.out.bel) hp
          have hmx : recs.getD k Sr.none ∈ recs := by rw [List.getD_eq_getElem?_getD, List.getElem?_eq_getElem hp]; exact List.getElem_mem hp
          have hxo := b4 _ hmx
          have HT : Hid (l10 ++ (recs.take k).flatMap recT ++ recT (recs.getD k Sr.none) = l10 ++ (recs.take (k + 1)).flatMap recT) := by
            unfold Hid
            rw [getD_snoc Sr.none hp, List.flatMap_append]
            simp
          have hll : (l10 ++ (recs.take k).flatMap recT).length ≤ 9437200 := by
            rw [List.length_append, recs_parts, List.length_take]; omega
          obtain ⟨lk, hlk⟩ : ∃ lk, l10 ++ (recs.take k).flatMap recT = lk := ⟨_, rfl⟩
          rw [hlk] at HW HT hll
          obtain ⟨x, hx⟩ : ∃ x, recs.getD k Sr.none = x := ⟨_, rfl⟩
          rw [hx] at cx hxo HT
          obtain ⟨v0, v1, v2, v3, v4, v5, v6⟩ := cx
          have HCc : Hid (∀ u, Below wr.heap.size wr u → Calls Tryz.prog 40 #[.pointer (some ⟨g, 0, none⟩), .agg #[.int .i64 x.kind, .int .i64 x.offset, .int .i64 x.time, .int .i64 x.pid, .int .i64 x.seq, .string (ba x.key), .string (ba x.value)]] u fun e w' => e = .returned (.tuple #[]) ∧ Wr (· = X0) w w' g (lk ++ recT x) ∧ Kp (· = X0) u w') := fun u hu => recOf x hxo.1 (by have := hxo.2.1; omega) (by have := hxo.2.2; omega) (· = X0) w u g lk (HTb.out _ (Below.refl _ _)) (HW.out.later hu) (by omega)
          have HKu : Hid (∀ u, Below wr.heap.size wr u → Kp (· = X0) W2 u) := fun u hu => HK.out.trans (HW.out.kp hu)
          clear hmx hlk hx hxo hll
          go_wp2_with fail
          have hbu : Below wr.heap.size wr (wr.alloc (.cells #[.int .i64 x.kind, .int .i64 x.offset, .int .i64 x.time, .int .i64 x.pid, .int .i64 x.seq, .string (ba x.key), .string (ba x.value)] 73)) := (Below.refl _ _).alloc (Nat.le_refl _) _
          have HKv := mkW (HKu.out _ hbu)
          refine (HCc.out _ hbu).mono ?_
          rintro e we ⟨rfl, hwe, hke⟩
          have HWe := mkW hwe
          have HKe := mkW (HKv.out.trans hke)
          rw [HT.out] at HWe
          clear hwe hke HCc HKu HKv hbu HT HW HK v0 v1 v2 v3 v4 v5 v6
          go_wp2
          go_roundw
          case rel => exact ⟨k + 1, by omega, by go_num, HWe, HKe⟩
          case measure => (first | (simp [intOf]; omega) | omega | (show _ < _; simp only [intOf]; omega))
        · have hki : ¬ (k : Int) < (recs.length : Int) := by omega
          have hke : k = recs.length := by omega
          subst hke
          rw [List.take_length, HL9.out] at HW
          have HLn : Hid (∀ u, Wr (· = X0) w u g (Lib.itoa id :: showT ⟨id, op, code, fo, nu, mo, recs, names⟩) → Calls Tryz.prog 23 #[.pointer (some ⟨g, 0, none⟩)] u fun e w' => e = .returned (.string (ba (joinL (Lib.itoa id) (showT ⟨id, op, code, fo, nu, mo, recs, names⟩)))) ∧ Below u.heap.size u w') := fun u hu => by
            refine lineOf (Lib.itoa id) (showT ⟨id, op, code, fo, nu, mo, recs, names⟩) (· = X0) w u g hu ?_ (by unfold showL at hlen; simp only at hlen; omega)
            rw [← HL9.out, List.length_append, recs_parts]
            omega
          go_wp2_with (go_at_call 23; refine (HLn.out _ HW.out).mono ?_; rintro e we ⟨rfl, hbe⟩)
          go_ret
          exact ⟨rfl, below_on HW.out.bel hbe⟩
end Go.Proofs.YtlnppgjppfkocaaGreatDoor.Xs
