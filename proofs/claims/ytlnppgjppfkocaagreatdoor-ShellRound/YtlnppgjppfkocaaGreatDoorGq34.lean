import Derived.Test.YtlnppgjppfkocaaGreatDoorGq29
import Derived.Test.YtlnppgjppfkocaaGreatDoorGq33
/-! The program's Show: a record. -/
namespace Go.Proofs.YtlnppgjppfkocaaGreatDoor.Xs
open Go.RowKit Plain
set_option linter.unusedVariables false
set_option linter.unusedSimpArgs false

def fourN (x : Sr) : List Int := [x.offset, x.time, x.pid, x.seq]
theorem SrAt.kp {P : Nat → Prop} {w w' : World} {b o : Nat} {x : Sr} (h : SrAt w b o x) (k : Kp P w w') (hb : P b) : SrAt w' b o x :=
  ⟨(k.cell hb).trans h.c0, (k.cell hb).trans h.c1, (k.cell hb).trans h.c2, (k.cell hb).trans h.c3, (k.cell hb).trans h.c4, (k.cell hb).trans h.c5, (k.cell hb).trans h.c6⟩
theorem ints_new (w : World) (l : List Int) (C : Array Value) (t : TypeId) (hC : C = (l.map (Value.int .i64)).toArray) {j : Nat} {n : Int} (hj : l[j]? = some n) : (w.alloc (.cells C t)).cell? ⟨w.heap.size, j, none⟩ = some (.int .i64 n) := by
  rw [World.cell?_alloc_at _ _ _ _ rfl, hC, List.getElem?_toArray, List.getElem?_map, hj]; rfl
theorem four_all {x : Sr} (ok : x.Ok) : ∀ n ∈ fourN x, I64 n := by
  intro n hn
  simp only [fourN, List.mem_cons, List.not_mem_nil, or_false] at hn
  rcases hn with e | e | e | e <;> rw [e]
  · exact ok.offset
  · exact ok.time
  · exact ok.pid
  · exact ok.seq
abbrev srA (x : Sr) : Array Value := #[.int .i64 x.kind, .int .i64 x.offset, .int .i64 x.time, .int .i64 x.pid, .int .i64 x.seq, .string (ba x.key), .string (ba x.value)]
theorem srBox (w : World) (x : Sr) (t : TypeId) : SrAt (w.alloc (.cells (srA x) t)) w.heap.size 0 x := by
  have k : ∀ (i : Nat) v, (srA x)[i]? = some v → (w.alloc (.cells (srA x) t)).cell? ⟨w.heap.size, 0 + i, none⟩ = some v := fun i v hv => by
    rw [World.cell?_alloc_at _ _ _ _ rfl, Nat.zero_add]; exact hv
  exact ⟨k 0 _ rfl, k 1 _ rfl, k 2 _ rfl, k 3 _ rfl, k 4 _ rfl, k 5 _ rfl, k 6 _ rfl⟩
set_option maxHeartbeats 16000000 in
set_option maxRecDepth 100000 in
theorem recOf (x : Sr) (ok : x.Ok) (hk : x.key.length ≤ 8796093022208) (hv : x.value.length ≤ 8796093022208) (P : Nat → Prop) (W w : World) (g : Nat) (l : List By) (hT : Tab W) (h : Wr P W w g l) (hl : l.length ≤ 8796093021000) :
    Calls Tryz.prog 40 #[.pointer (some ⟨g, 0, none⟩), .agg (srA x)] w fun e w' => e = .returned (.tuple #[]) ∧ Wr P W w' g (l ++ recT x) ∧ Kp P w w' := by
  obtain ⟨W1, hW1⟩ : ∃ W1, w.alloc (.cells (srA x) 73) = W1 := ⟨_, rfl⟩
  have HX : Hid (SrAt W1 w.heap.size 0 x) := by rw [← hW1]; exact srBox w x _
  have HB1 : Hid (Below w.heap.size w W1) := by rw [← hW1]; exact (Below.refl _ w).alloc (Nat.le_refl _) _
  have s00 := HX.out.c0
  have hX := cell_lt s00
  simp only at hX
  have HTb : Hid (∀ u, Below W.heap.size W u → Tab u) := fun u hu => hT.later hu
  have HWg := h.guard HB1.out (Nat.le_refl _) hX
  have HKw : Hid (Kp P w W1) := h.kp HB1.out
  obtain ⟨X0, hX0⟩ : ∃ X0, w.heap.size = X0 := ⟨_, rfl⟩
  rw [hX0] at HX s00 hX HWg
  obtain ⟨P1, hP1⟩ : ∃ P1, (fun b => P b ∨ b = X0) = P1 := ⟨_, rfl⟩
  rw [hP1] at HWg
  have HW1 := mkW HWg
  have HP1 : Hid (P1 X0 ∧ ∀ b, P b → P1 b) := ⟨by rw [← hP1]; exact .inr rfl, fun b k => by rw [← hP1]; exact .inl k⟩
  clear HWg hP1
  go_enter Tryz.func40, Tryz.ntmps40
  go_wp2_with fail
  clear hX0 hW1 HB1 h
  refine wp_region_noPanic ?_
  refine Till.start 5 (S := fun u => u.cell? ⟨X0, 0, none⟩ = some (.int .i64 x.kind)) (by kernel_rfl) s00 (fun hHeld => ?_)
  refine' Till.take 0 rfl (by kernel_rfl) (by kernel_rfl) (by kernel_rfl) (by kernel_rfl) (fun _ _ _ h => h) (Or.inl ⟨by rfl, ?_⟩) (by assumption) ?_
  rotate_left
  · (intro w hSw; (try dsimp only at hSw); go_simp <;> with_reducible rfl)
  try simp only [Act.put, List.setIfInBounds_toArray, List.set_cons_zero, List.set_cons_succ]
  refine' Till.take 2 rfl (by kernel_rfl) (by kernel_rfl) (by kernel_rfl) (by kernel_rfl) (fun _ _ _ h => h) (Or.inl ⟨by rfl, ?_⟩) (by assumption) ?_
  rotate_left
  · (intro w hSw; (try dsimp only at hSw); go_simp <;> with_reducible rfl)
  try simp only [Act.put, List.setIfInBounds_toArray, List.set_cons_zero, List.set_cons_succ]
  refine' Till.take 3 rfl (by kernel_rfl) (by kernel_rfl) (by kernel_rfl) (by kernel_rfl) (fun _ _ _ h => h) (Or.inl ⟨by rfl, ?_⟩) (by assumption) ?_
  rotate_left
  · (intro w hSw; (try dsimp only at hSw); go_simp <;> with_reducible rfl)
  try simp only [Act.put, List.setIfInBounds_toArray, List.set_cons_zero, List.set_cons_succ]
  refine Till.one 1 (by kernel_rfl) rfl (fun K hK => ?_)
  go_simp
  go_at_call 61
  refine (kindWordsOf _).mono ?_
  rintro e wa ⟨va, rfl, hna, hba⟩
  refine hK.out _ _ ?_ (fun hHeld => ?_)
  · exact (hba.cell hX).trans s00
  clear hK K
  try simp only [Act.put, List.setIfInBounds_toArray, List.set_cons_zero, List.set_cons_succ]
  have hWa : Wr P1 W wa g l := HW1.out.drew.later hba
  have hKa : Kp P1 W1 wa := (HW1.out.kp (Below.refl _ W1).drew).trans (HW1.out.drew.kp hba)
  have sa0 : wa.cell? ⟨X0, 0, none⟩ = some (.int .i64 x.kind) := (hba.cell hX).trans s00
  refine Till.one 4 (by kernel_rfl) rfl (fun K hK => ?_)
  go_simp
  go_at_call 35
  refine (namedOf kindsL va x.kind ok.kind kindP (by decide) _ hna (HTb.out _ hWa.bel)).mono ?_
  rintro e wb ⟨rfl, hbb⟩
  refine hK.out _ _ ?_ (fun hHeld => ?_)
  · exact (hbb.cell (cell_lt sa0)).trans sa0
  clear hK K
  try simp only [Act.put, List.setIfInBounds_toArray, List.set_cons_zero, List.set_cons_succ]
  refine Till.last (by kernel_rfl) (by kernel_rfl) rfl (fun K hK => ?_)
  go_simp
  go_at_call 22
  refine (wordOf _ P1 W _ g l (hWa.later hbb) (by omega)).mono ?_
  rintro e wc ⟨rfl, hWc, hKc⟩
  refine hK.out _ _ ?_
  clear hK K
  try simp only [Act.put, List.setIfInBounds_toArray, List.set_cons_zero, List.set_cons_succ]
  refine NoPanic.normal ?_
  rw [named_kind] at hWc
  have HWc := mkW hWc
  have HKc : Hid (Kp P1 W1 wc) := hKa.trans ((hWa.kp hbb).trans hKc)
  have HXc : Hid (SrAt wc X0 0 x) := HX.out.kp HKc.out HP1.out.1
  obtain ⟨l1, hl1⟩ : ∃ l1, l ++ [kindT x.kind] = l1 := ⟨_, rfl⟩
  have hl1n : l1.length = l.length + 1 := by rw [← hl1]; simp
  rw [hl1] at HWc
  have HL1 := mkW hl1
  have e1 : SrAt wc X0 0 x := HXc.out
  have c1 := e1.c1
  have c2 := e1.c2
  have c3 := e1.c3
  have c4 := e1.c4
  rw [Nat.zero_add] at c1 c2 c3 c4
  have hXc := cell_lt c1
  clear hWc hWa hKa hKc hba hbb hna sa0 s00 hHeld hX hl1 e1 HX
  obtain ⟨W2, hW2⟩ : ∃ W2, wc.alloc (.cells #[.int .i64 x.offset, .int .i64 x.time, .int .i64 x.pid, .int .i64 x.seq] 2) = W2 := ⟨_, rfl⟩
  have hN2 : ∀ (j : Nat) n, (fourN x)[j]? = some n → W2.cell? ⟨wc.heap.size, j, none⟩ = some (.int .i64 n) := fun j n hj => by
    rw [← hW2]; exact ints_new wc (fourN x) _ 2 rfl hj
  have hB2 : Below wc.heap.size wc W2 := by rw [← hW2]; exact (Below.refl _ wc).alloc (Nat.le_refl _) _
  have hX1 := cell_lt (hN2 0 _ rfl)
  simp only at hX1
  have hWg2 := HWc.out.guard hB2 (Nat.le_refl _) hX1
  have hKw2 := HWc.out.kp hB2
  obtain ⟨X1, hX1e⟩ : ∃ X1, wc.heap.size = X1 := ⟨_, rfl⟩
  rw [hX1e] at hN2 hX1 hWg2
  obtain ⟨P2, hP2⟩ : ∃ P2, (fun b => P1 b ∨ b = X1) = P2 := ⟨_, rfl⟩
  rw [hP2] at hWg2
  have HP2 : Hid (P2 X1 ∧ (∀ b, P1 b → P2 b)) := ⟨by rw [← hP2]; exact .inr rfl, fun b k => by rw [← hP2]; exact .inl k⟩
  have HW2 := mkW hWg2
  have HKw2 := mkW hKw2
  have HN2 := mkW hN2
  have H4 : Hid (∀ n ∈ fourN x, I64 n) := four_all ok
  clear hWg2 hP2 hB2 hN2 hKw2
  go_wp2_with fail
  clear hX1e hW2 c1 c2 c3 c4
  go_loopw [22] (fun i wl => ∃ (k : Nat), k ≤ 4 ∧ i = .int .i64 k ∧ Hid (Wr P2 W wl g (l1 ++ ((fourN x).take k).map Lib.itoa)) ∧ Hid (Kp P2 W2 wl)) (fun i _ => 10 - (intOf i).toNat)
  case atStart => exact ⟨0, by omega, rfl, by simpa using HW2, Kp.refl _ _⟩
  case round =>
    clear HW2
    obtain ⟨k, hk4, rfl, HW, HK⟩ := hrel
    by_cases hp : k < 4
    · have hki : (k : Int) < 4 := by omega
      have hlen : (fourN x).length = 4 := rfl
      obtain ⟨n, hn⟩ : ∃ n, (fourN x)[k]? = some n := ⟨_, List.getElem?_eq_getElem (by omega)⟩
      have hnI : I64 n := H4.out n (List.mem_of_getElem? hn)
      have cn : wr.cell? ⟨X1, k, none⟩ = some (.int .i64 n) := (HK.out.cell HP2.out.1).trans (HN2.out k n hn)
      have HT : Hid (l1 ++ ((fourN x).take k).map Lib.itoa ++ [Lib.itoa n] = l1 ++ ((fourN x).take (k + 1)).map Lib.itoa) := by
        unfold Hid
        rw [List.take_succ_eq_append_getElem (by omega : k < (fourN x).length), List.map_append, List.append_assoc]
        rw [List.getElem?_eq_getElem (by omega : k < (fourN x).length)] at hn
        rw [Option.some.inj hn]; rfl
      have hll : (l1 ++ ((fourN x).take k).map Lib.itoa).length ≤ 8796093022000 := by
        rw [List.length_append, List.length_map, List.length_take]; omega
      obtain ⟨lk, hlk⟩ : ∃ lk, l1 ++ ((fourN x).take k).map Lib.itoa = lk := ⟨_, rfl⟩
      rw [hlk] at HW HT hll
      have HC : Hid (Calls Tryz.prog 34 #[.pointer (some ⟨g, 0, none⟩), .int .i64 n] wr fun e w' => e = .returned (.tuple #[]) ∧ Wr P2 W w' g (lk ++ [Lib.itoa n]) ∧ Kp P2 wr w') := numOf n hnI P2 W _ g lk hT HW.out hll
      clear hlk hn hnI hlen
      go_wp2_with (go_at_call 34; refine HC.out.mono ?_; rintro e wd ⟨rfl, hwd, hkd⟩)
      have HWd := mkW hwd
      have HKd := mkW (HK.out.trans hkd)
      rw [HT.out] at HWd
      clear hwd hkd HC HW HK cn HT
      go_wp2
      go_roundw
      case rel => exact ⟨k + 1, by omega, by go_num, HWd, HKd⟩
      case measure => (first | (simp [intOf]; omega) | omega | (show _ < _; simp only [intOf]; omega))
    · have hki : ¬ (k : Int) < 4 := by omega
      have hk : k = 4 := by omega
      subst hk
      have HKx : Hid (Kp P1 wc wr) := HKw2.out.trans (HK.out.weak HP2.out.2)
      have e5 := (HXc.out.kp HKx.out HP1.out.1).c5
      rw [Nat.zero_add] at e5
      have HKx1 : Hid (Kp P1 W1 wr) := HKc.out.trans HKx.out
      have HW5 : Hid (Wr P1 W wr g (l1 ++ (fourN x).map Lib.itoa)) := HW.out.weak HP2.out.2
      have hl5 : (l1 ++ (fourN x).map Lib.itoa).length ≤ 8796093021100 := by
        rw [List.length_append, List.length_map]
        have : (fourN x).length = 4 := rfl
        omega
      have HE : Hid (l1 ++ (fourN x).map Lib.itoa ++ [txt x.key] ++ [txt x.value] = l ++ recT x) := by
        unfold Hid; rw [← HL1.out]; simp [fourN, recT]
      obtain ⟨l5, hl5e⟩ : ∃ l5, l1 ++ (fourN x).map Lib.itoa = l5 := ⟨_, rfl⟩
      rw [hl5e] at HW5 hl5 HE
      clear hl5e HW HK
      have HTK : Hid (∀ wd, Kp P1 wr wd → wd.cell? ⟨X0, 6, none⟩ = some (.string (ba x.value))) := fun wd hkd => by
        have e6 := (HXc.out.kp (HKx.out.trans hkd) HP1.out.1).c6
        rwa [Nat.zero_add] at e6
      go_wp2_with (go_at_call_of 39 (Value.string (ba x.key)); refine (textOf x.key hk P1 W _ g l5 HW5.out (by omega)).mono ?_; rintro e wd ⟨rfl, hwd, hkd⟩; have e6 := HTK.out wd hkd)
      have HWd := mkW hwd
      have HKd := mkW (HKx1.out.trans hkd)
      clear hwd hkd e5 HTK
      go_wp2_with (go_at_call 39; refine (textOf x.value hv P1 W _ g _ HWd.out (by rw [List.length_append]; simp; omega)).mono ?_; rintro e we ⟨rfl, hwe, hke⟩)
      rw [HE.out] at hwe
      have hfin := HKw.out.trans ((HKd.out.trans hke).weak HP1.out.2)
      go_end0
      exact ⟨rfl, hwe.weak HP1.out.2, hfin⟩
end Go.Proofs.YtlnppgjppfkocaaGreatDoor.Xs

/-! What the verbs' functions write. -/
namespace Go.Proofs.YtlnppgjppfkocaaGreatDoor.Xs
open Go.RowKit Plain
set_option linter.unusedVariables false
set_option linter.unusedSimpArgs false

theorem CmAt.kp {P : Nat → Prop} {w w' : World} {g : Nat} {c : Cm} {vr vp : Value} (h : CmAt w g c vr vp) (k : Kp P w w') (hb : P g) : CmAt w' g c vr vp :=
  ⟨(k.cell hb).trans h.c0, (k.cell hb).trans h.c1, (k.cell hb).trans h.c2, (k.cell hb).trans h.c3, (k.cell hb).trans h.c4, (k.cell hb).trans h.c5, (k.cell hb).trans h.c6, (k.cell hb).trans h.c7, (k.cell hb).trans h.c8, (k.cell hb).trans h.c9, (k.cell hb).trans h.c10, (k.cell hb).trans h.c11, (k.cell hb).trans h.c12, (k.cell hb).trans h.c13⟩
/-- A command's box is none of the writer's. -/
theorem cm_box {P : Nat → Prop} {W w : World} {g : Nat} {l : List By} (h : Wr P W w g l) (c : Cm) (vr vp : Value) :
    ∃ P1 W1, w.alloc (.cells (cmA c vr vp) 28) = W1 ∧ Wr P1 W W1 g l ∧ (∀ b, P b → P1 b) ∧ Kp P w W1 ∧ (∀ u, Kp P1 W1 u → CmAt u w.heap.size c vr vp) ∧ Below w.heap.size w W1 ∧ P1 w.heap.size ∧ w.heap.size < W1.heap.size := by
  have hx := cmBox w c vr vp 28
  have hl := cell_lt hx.2.c0
  simp only at hl
  exact ⟨_, _, rfl, h.guard hx.1 (Nat.le_refl _) hl, fun b k => .inl k, h.kp hx.1, fun u hu => hx.2.kp hu (.inr rfl), hx.1, .inr rfl, hl⟩
/-- What a verb's function writes: the parts A. -/
def WrOk (N : Nat) (f : Nat) (c : Cm) (vr vp : Value) (A : List By) : Prop := ∀ (P : Nat → Prop) (W w : World) (g : Nat) (l : List By), Tab W → Wr P W w g l → l.length ≤ N →
  Calls Tryz.prog f #[.pointer (some ⟨g, 0, none⟩), cmV c vr vp] w fun e w' => e = .returned (.tuple #[]) ∧ Wr P W w' g (l ++ A) ∧ Kp P w w'
set_option maxHeartbeats 4000000 in
set_option maxRecDepth 100000 in
theorem wNoneOf (N : Nat) (c : Cm) (vr vp : Value) : WrOk N 74 c vr vp [] := by
  intro P W w g l hT h hl
  obtain ⟨P1, W1, hW1, hw1, hp1, hk1, hc1, hb1, hpx, hlx⟩ := cm_box h c vr vp
  have HF := mkW (And.intro (hw1.weak hp1) hk1)
  clear hw1 hp1 hk1 hc1 hb1 h hpx hlx
  go_enter Tryz.func74, Tryz.ntmps74
  go_wp2
  go_end0
  exact ⟨rfl, by simpa using HF.out.1, HF.out.2⟩
set_option maxHeartbeats 4000000 in
set_option maxRecDepth 100000 in
theorem wConnOf (c : Cm) (vr vp : Value) (hn : I64 c.conn) (N : Nat) (hN : N ≤ 8796093000000) : WrOk N 62 c vr vp [Lib.itoa c.conn] := by
  intro P W w g l hT h hl
  obtain ⟨P1, W1, hW1, hw1, hp1, hk1, hc1, hb1, hpx, hlx⟩ := cm_box h c vr vp
  have z1 := (hc1 W1 (Kp.refl _ _)).c1
  have HC : Hid (Calls Tryz.prog 34 #[.pointer (some ⟨g, 0, none⟩), .int .i64 c.conn] W1 fun e w' => e = .returned (.tuple #[]) ∧ Wr P1 W w' g (l ++ [Lib.itoa c.conn]) ∧ Kp P1 W1 w') := numOf c.conn hn P1 W _ g l hT hw1 (by omega)
  have HF : Hid (∀ w', Wr P1 W w' g (l ++ [Lib.itoa c.conn]) → Kp P1 W1 w' → Wr P W w' g (l ++ [Lib.itoa c.conn]) ∧ Kp P w w') := fun w' a b => ⟨a.weak hp1, hk1.trans (b.weak hp1)⟩
  clear hw1 hp1 hk1 hc1 hb1 h hpx hlx
  go_enter Tryz.func62, Tryz.ntmps62
  go_wp2_with (go_at_call 34; refine HC.out.mono ?_; rintro e w2 ⟨rfl, hw2, hk2⟩)
  go_end0
  exact ⟨rfl, HF.out _ hw2 hk2⟩
set_option maxHeartbeats 4000000 in
set_option maxRecDepth 100000 in
theorem wNOf (c : Cm) (vr vp : Value) (hn : I64 c.n) (N : Nat) (hN : N ≤ 8796093000000) : WrOk N 68 c vr vp [Lib.itoa c.n] := by
  intro P W w g l hT h hl
  obtain ⟨P1, W1, hW1, hw1, hp1, hk1, hc1, hb1, hpx, hlx⟩ := cm_box h c vr vp
  have z1 := (hc1 W1 (Kp.refl _ _)).c12
  have HC : Hid (Calls Tryz.prog 34 #[.pointer (some ⟨g, 0, none⟩), .int .i64 c.n] W1 fun e w' => e = .returned (.tuple #[]) ∧ Wr P1 W w' g (l ++ [Lib.itoa c.n]) ∧ Kp P1 W1 w') := numOf c.n hn P1 W _ g l hT hw1 (by omega)
  have HF : Hid (∀ w', Wr P1 W w' g (l ++ [Lib.itoa c.n]) → Kp P1 W1 w' → Wr P W w' g (l ++ [Lib.itoa c.n]) ∧ Kp P w w') := fun w' a b => ⟨a.weak hp1, hk1.trans (b.weak hp1)⟩
  clear hw1 hp1 hk1 hc1 hb1 h hpx hlx
  go_enter Tryz.func68, Tryz.ntmps68
  go_wp2_with (go_at_call 34; refine HC.out.mono ?_; rintro e w2 ⟨rfl, hw2, hk2⟩)
  go_end0
  exact ⟨rfl, HF.out _ hw2 hk2⟩
set_option maxHeartbeats 4000000 in
set_option maxRecDepth 100000 in
theorem wTakeOf (c : Cm) (vr vp : Value) (hn : I64 c.conn) (hm : I64 c.n) (N : Nat) (hN : N ≤ 8796092000000) : WrOk N 72 c vr vp [Lib.itoa c.conn, Lib.itoa c.n] := by
  intro P W w g l hT h hl
  obtain ⟨P1, W1, hW1, hw1, hp1, hk1, hc1, hb1, hpx, hlx⟩ := cm_box h c vr vp
  have HZ := mkW hc1
  have HLL : Hid ((l ++ [Lib.itoa c.conn]).length ≤ N + 1) := by unfold Hid; rw [List.length_append]; simp; omega
  have HC : Hid (Calls Tryz.prog 62 #[.pointer (some ⟨g, 0, none⟩), cmV c vr vp] W1 fun e w' => e = .returned (.tuple #[]) ∧ Wr P1 W w' g (l ++ [Lib.itoa c.conn]) ∧ Kp P1 W1 w') := wConnOf c vr vp hn N (by omega) P1 W W1 g l hT hw1 hl
  have HD : Hid (∀ u, Wr P1 W u g (l ++ [Lib.itoa c.conn]) → Calls Tryz.prog 68 #[.pointer (some ⟨g, 0, none⟩), cmV c vr vp] u fun e w' => e = .returned (.tuple #[]) ∧ Wr P1 W w' g (l ++ [Lib.itoa c.conn] ++ [Lib.itoa c.n]) ∧ Kp P1 u w') := fun u hu => wNOf c vr vp hm (N + 1) (by omega) P1 W u g _ hT hu HLL.out
  have HF : Hid (∀ w', Wr P1 W w' g (l ++ [Lib.itoa c.conn] ++ [Lib.itoa c.n]) → Kp P1 W1 w' → Wr P W w' g (l ++ [Lib.itoa c.conn, Lib.itoa c.n]) ∧ Kp P w w') := fun w' a b => ⟨by have := a.weak hp1; simpa using this, hk1.trans (b.weak hp1)⟩
  obtain ⟨z0, z1, z2, z3, z4, z5, z6, z7, z8, z9, z10, z11, z12, z13⟩ := hc1 W1 (Kp.refl _ _)
  clear hw1 hp1 hk1 hc1 hb1 h hpx hlx
  go_enter Tryz.func72, Tryz.ntmps72
  go_wp2_with (go_at_call 62; refine HC.out.mono ?_; rintro e w2 ⟨rfl, hw2, hk2⟩; obtain ⟨y0, y1, y2, y3, y4, y5, y6, y7, y8, y9, y10, y11, y12, y13⟩ := HZ.out w2 hk2)
  have HW2 := mkW hw2
  have HK2 := mkW hk2
  clear hw2 hk2
  go_wp2_with (go_at_call 68; refine (HD.out _ HW2.out).mono ?_; rintro e w3 ⟨rfl, hw3, hk3⟩)
  have hf := HF.out _ hw3 (HK2.out.trans hk3)
  go_end0
  exact ⟨rfl, hf⟩
theorem pk_at {u : World} {n c : Nat} {a : Option Addr} {l : List Int} (h : PksAt u (.slice a n c) l) {k : Nat} (hk : k < l.length) : ∃ b off, a = some ⟨b, off, none⟩ ∧ u.cell? ⟨b, off + k, none⟩ = some (.int .i64 (l.getD k 0)) := by
  obtain ⟨_, _, e, _, _, hc⟩ := h
  cases e
  obtain ⟨b, off, e, hcc⟩ := hc (fun e => by rw [e] at hk; simp at hk)
  exact ⟨b, off, e, hcc k hk⟩
theorem by_at {u : World} {n c : Nat} {a : Option Addr} {l : By} (h : BysAt u (.slice a n c) l) {k : Nat} (hk : k < l.length) : ∃ b off, a = some ⟨b, off, none⟩ ∧ u.cell? ⟨b, off + k, none⟩ = some (.int .u8 ((l.getD k 0).toNat : Int)) := by
  obtain ⟨_, _, e, _, _, hc⟩ := h
  cases e
  obtain ⟨b, off, e, hcc⟩ := hc (fun e => by rw [e] at hk; simp at hk)
  exact ⟨b, off, e, hcc k hk⟩
theorem getD_take {α : Type} {l : List α} {k : Nat} (d : α) (h : k < l.length) : l.take (k + 1) = l.take k ++ [l.getD k d] := getD_snoc d h
set_option maxHeartbeats 8000000 in
set_option maxRecDepth 100000 in
theorem wPicksOf (c : Cm) (vr vp : Value) (hp : ∀ x ∈ c.picks, I64 x) (hpl : c.picks.length ≤ 1000000) (P : Nat → Prop) (W w : World) (g : Nat) (l : List By) (hT : Tab W) (hpk : ∀ u, Below W.heap.size W u → PksAt u vp c.picks) (h : Wr P W w g l) (hl : l.length ≤ 1000000) :
    Calls Tryz.prog 70 #[.pointer (some ⟨g, 0, none⟩), cmV c vr vp] w fun e w' => e = .returned (.tuple #[]) ∧ Wr P W w' g (l ++ c.picks.map Lib.itoa) ∧ Kp P w w' := by
  obtain ⟨P1, W1, hW1, hw1, hp1, hk1, hc1, hb1, hpx, hlx⟩ := cm_box h c vr vp
  have z13 := (hc1 W1 (Kp.refl _ _)).c13
  obtain ⟨av, cv, rfl, hv1, hv2, hv3⟩ := hpk W (Below.refl _ _)
  have HPK := mkW hpk
  have HW1 := mkW hw1
  have HF : Hid (∀ w', Wr P1 W w' g (l ++ c.picks.map Lib.itoa) → Kp P1 W1 w' → Wr P W w' g (l ++ c.picks.map Lib.itoa) ∧ Kp P w w') := fun w' a b => ⟨a.weak hp1, hk1.trans (b.weak hp1)⟩
  have HP := mkW hp
  clear hw1 hp1 hk1 hc1 hb1 h hpx hlx hv3 hv1 hpk hp
  go_enter Tryz.func70, Tryz.ntmps70
  go_wp2_with fail
  clear z13
  go_loopw [9] (fun i wl => ∃ (k : Nat), k ≤ c.picks.length ∧ i = .int .i64 k ∧ Hid (Wr P1 W wl g (l ++ (c.picks.take k).map Lib.itoa)) ∧ Hid (Kp P1 W1 wl)) (fun i _ => c.picks.length + 10 - (intOf i).toNat)
  case atStart => exact ⟨0, Nat.zero_le _, rfl, by simpa using HW1, Kp.refl _ _⟩
  case round =>
    clear HW1
    obtain ⟨k, hk, rfl, HW, HK⟩ := hrel
    by_cases hq : k < c.picks.length
    · have hki : (k : Int) < (c.picks.length : Int) := by omega
      obtain ⟨b, off, rfl, cn⟩ := pk_at (HPK.out wr HW.out.bel) hq
      have hnI : I64 (c.picks.getD k 0) := HP.out _ (by rw [List.getD_eq_getElem?_getD, List.getElem?_eq_getElem hq]; exact List.getElem_mem hq)
      have HT : Hid (l ++ (c.picks.take k).map Lib.itoa ++ [Lib.itoa (c.picks.getD k 0)] = l ++ (c.picks.take (k + 1)).map Lib.itoa) := by
        unfold Hid
        rw [getD_take 0 hq, List.map_append, List.append_assoc]; rfl
      have hll : (l ++ (c.picks.take k).map Lib.itoa).length ≤ 2000000 := by
        rw [List.length_append, List.length_map, List.length_take]; omega
      obtain ⟨lk, hlk⟩ : ∃ lk, l ++ (c.picks.take k).map Lib.itoa = lk := ⟨_, rfl⟩
      rw [hlk] at HW HT hll
      obtain ⟨n, hn⟩ : ∃ n, c.picks.getD k 0 = n := ⟨_, rfl⟩
      rw [hn] at cn hnI HT
      have HC : Hid (Calls Tryz.prog 34 #[.pointer (some ⟨g, 0, none⟩), .int .i64 n] wr fun e w' => e = .returned (.tuple #[]) ∧ Wr P1 W w' g (lk ++ [Lib.itoa n]) ∧ Kp P1 wr w') := numOf n hnI P1 W _ g lk hT HW.out (by omega)
      clear hlk hn hnI
      go_wp2_with (go_at_call 34; refine HC.out.mono ?_; rintro e wd ⟨rfl, hwd, hkd⟩)
      have HWd := mkW hwd
      have HKd := mkW (HK.out.trans hkd)
      rw [HT.out] at HWd
      clear hwd hkd HC HW HK cn HT
      go_wp2
      go_roundw
      case rel => exact ⟨k + 1, by omega, by go_num, HWd, HKd⟩
      case measure => (first | (simp [intOf]; omega) | omega | (show _ < _; simp only [intOf]; omega))
    · have hki : ¬ (k : Int) < (c.picks.length : Int) := by omega
      have hke : k = c.picks.length := by omega
      subst hke
      rw [List.take_length] at HW
      have hf := HF.out _ HW.out HK.out
      go_wp2
      go_end0
      exact ⟨rfl, hf⟩
set_option maxHeartbeats 8000000 in
set_option maxRecDepth 100000 in
theorem bytesOf (x : By) (v : Value) (P : Nat → Prop) (W w : World) (g : Nat) (l : List By) (hb : ∀ u, Below W.heap.size W u → BysAt u v x) (hxl : x.length ≤ 35184372088832) (h : Wr P W w g l) (hl : l.length ≤ 1000000) :
    Calls Tryz.prog 102 #[.pointer (some ⟨g, 0, none⟩), v] w fun e w' => e = .returned (.tuple #[]) ∧ Wr P W w' g (l ++ [rawT x]) ∧ Kp P w w' := by
  obtain ⟨av, cv, rfl, hv1, hv2, hv3⟩ := hb W (Below.refl _ _)
  have HB := mkW hb
  by_cases h0 : x = []
  · subst h0
    have HC : Hid (Calls Tryz.prog 22 #[.pointer (some ⟨g, 0, none⟩), .string (ba [45])] w fun e w' => e = .returned (.tuple #[]) ∧ Wr P W w' g (l ++ [rawT []]) ∧ Kp P w w') := wordOf [45] P W w g l h (by omega)
    clear hb hv1 hv2 hv3 HB
    go_enter Tryz.func102, Tryz.ntmps102
    go_wp2_with (go_at_call 22; refine HC.out.mono ?_; rintro e w2 ⟨rfl, hw2, hk2⟩)
    first | go_end0 | refine bodyPost_ret (results_none rfl _ _ _) rfl ?_
    exact ⟨rfl, hw2, hk2⟩
  · have hx0 : ¬ x.length = 0 := fun e => h0 (List.length_eq_zero_iff.1 e)
    have hx0i : ((x.length : Int) == 0) = false := by rw [beq_eq_false_iff_ne]; omega
    have HE : Hid (rawT x = x.flatMap hxB) := by unfold Hid rawT; rw [if_neg h0]
    have HW := mkW h
    clear hb hv1 hv2 hv3 h0 h
    go_enter Tryz.func102, Tryz.ntmps102
    go_wp2
    go_loopw [4, 14] (fun v i wl => ∃ (k : Nat) (b : By) (a : Option Addr) (cap : Nat), k ≤ x.length ∧ i = .int .i64 k ∧ v = .slice a b.length cap ∧ Hid (b = (x.take k).flatMap hxB) ∧ Hid (b.length = 2 * k) ∧ Hid (Gb w wl (.slice a b.length cap) b)) (fun _ i _ => x.length + 10 - (intOf i).toNat)
    case atStart => exact ⟨0, [], none, 0, Nat.zero_le _, rfl, rfl, rfl, rfl, Gb.nil (Below.refl _ _)⟩
    case round =>
      obtain ⟨k, b, a, cap, hk, rfl, rfl, HBk, hbl, HG⟩ := hrel
      by_cases hp : k < x.length
      · have hki : (k : Int) < (x.length : Int) := by omega
        obtain ⟨bb, off, rfl, cn⟩ := by_at (HB.out wr (HW.out.bel.trans (HG.out.below.mono HW.out.bel.size))) hp
        obtain ⟨c, hc⟩ : ∃ c, x.getD k 0 = c := ⟨_, rfl⟩
        rw [hc] at cn
        have HB2 : Hid (b ++ hxB c = (x.take (k + 1)).flatMap hxB) := by
          unfold Hid
          rw [HBk.out, getD_take 0 hp, List.flatMap_append, hc]; simp
        have hb2 : (b ++ hxB c).length = 2 * (k + 1) := by rw [List.length_append]; have := hbl.out; simp [hxB]; omega
        have hbb : b.length ≤ 140737488354000 := by have := hbl.out; omega
        have HB2L := mkW hb2
        clear hc hb2 hbl
        go_wp2_with (go_at_call 94; refine (appByteOf c w _ _ b HG.out hbb).mono ?_; rintro e w4 ⟨v4, rfl, hg4⟩)
        obtain ⟨a4, c4, rfl⟩ := hg4.slice
        have HG4 := mkW hg4
        obtain ⟨b4, hb4⟩ : ∃ y, b ++ hxB c = y := ⟨_, rfl⟩
        rw [hb4] at HG4 HB2 HB2L ⊢
        clear hg4 hb4 HG cn
        go_wp2
        go_roundw
        case rel => exact ⟨k + 1, b4, a4, c4, by omega, by go_num, rfl, HB2, HB2L, HG4⟩
        case measure => (first | (simp [intOf]; omega) | omega | (show _ < _; simp only [intOf]; omega))
      · have hki : ¬ (k : Int) < (x.length : Int) := by omega
        have hke : k = x.length := by omega
        subst hke
        have HB1 : Hid (b = rawT x) := by unfold Hid; rw [HE.out, HBk.out, List.take_length]
        have hcv := conv_gb HG.out wr (Below.refl _ _)
        have HC : Hid (Calls Tryz.prog 22 #[.pointer (some ⟨g, 0, none⟩), .string (ba b)] wr fun e w' => e = .returned (.tuple #[]) ∧ Wr P W w' g (l ++ [rawT x]) ∧ Kp P wr w') := by
          rw [← HB1.out]; exact wordOf b P W wr g l (HW.out.later HG.out.below) (by omega)
        have HK : Hid (Kp P w wr) := HW.out.kp HG.out.below
        go_wp2_with (go_at_call 22; refine HC.out.mono ?_; rintro e w2 ⟨rfl, hw2, hk2⟩)
        have hkk := HK.out.trans hk2
        go_end0
        exact ⟨rfl, hw2, hkk⟩
set_option maxHeartbeats 8000000 in
set_option maxRecDepth 100000 in
theorem wRawOf (c : Cm) (vr vp : Value) (hn : I64 c.conn) (P : Nat → Prop) (W w : World) (g : Nat) (l : List By) (hT : Tab W) (hb : ∀ u, Below W.heap.size W u → BysAt u vr c.raw) (hxl : c.raw.length ≤ 35184372088832) (h : Wr P W w g l) (hl : l.length ≤ 1000) :
    Calls Tryz.prog 66 #[.pointer (some ⟨g, 0, none⟩), cmV c vr vp] w fun e w' => e = .returned (.tuple #[]) ∧ Wr P W w' g (l ++ [Lib.itoa c.conn, rawT c.raw]) ∧ Kp P w w' := by
  obtain ⟨P1, W1, hW1, hw1, hp1, hk1, hc1, hb1, hpx, hlx⟩ := cm_box h c vr vp
  have HZ := mkW hc1
  have HLL : Hid ((l ++ [Lib.itoa c.conn]).length ≤ 1001) := by unfold Hid; rw [List.length_append]; simp; omega
  have HC : Hid (Calls Tryz.prog 62 #[.pointer (some ⟨g, 0, none⟩), cmV c vr vp] W1 fun e w' => e = .returned (.tuple #[]) ∧ Wr P1 W w' g (l ++ [Lib.itoa c.conn]) ∧ Kp P1 W1 w') := wConnOf c vr vp hn 1000 (by omega) P1 W W1 g l hT hw1 hl
  have HD : Hid (∀ u, Wr P1 W u g (l ++ [Lib.itoa c.conn]) → Calls Tryz.prog 102 #[.pointer (some ⟨g, 0, none⟩), vr] u fun e w' => e = .returned (.tuple #[]) ∧ Wr P1 W w' g (l ++ [Lib.itoa c.conn] ++ [rawT c.raw]) ∧ Kp P1 u w') := fun u hu => bytesOf c.raw vr P1 W u g _ hb hxl hu (by have := HLL.out; omega)
  have HF : Hid (∀ w', Wr P1 W w' g (l ++ [Lib.itoa c.conn] ++ [rawT c.raw]) → Kp P1 W1 w' → Wr P W w' g (l ++ [Lib.itoa c.conn, rawT c.raw]) ∧ Kp P w w') := fun w' a b => ⟨by have := a.weak hp1; simpa using this, hk1.trans (b.weak hp1)⟩
  obtain ⟨z0, z1, z2, z3, z4, z5, z6, z7, z8, z9, z10, z11, z12, z13⟩ := hc1 W1 (Kp.refl _ _)
  clear hw1 hp1 hk1 hc1 hb1 h hpx hlx hb
  go_enter Tryz.func66, Tryz.ntmps66
  go_wp2_with (go_at_call 62; refine HC.out.mono ?_; rintro e w2 ⟨rfl, hw2, hk2⟩; have y11 := (HZ.out w2 hk2).c11)
  have HW2 := mkW hw2
  have HK2 := mkW hk2
  clear hw2 hk2
  go_wp2_with (go_at_call 102; refine (HD.out _ HW2.out).mono ?_; rintro e w3 ⟨rfl, hw3, hk3⟩)
  have hf := HF.out _ hw3 (HK2.out.trans hk3)
  go_end0
  exact ⟨rfl, hf⟩
end Go.Proofs.YtlnppgjppfkocaaGreatDoor.Xs

/-! A request's fields that are used, plainly; a row that the writer does not own. -/
namespace Go.Proofs.YtlnppgjppfkocaaGreatDoor.Xs
open Go.RowKit Plain
set_option linter.unusedVariables false
set_option linter.unusedSimpArgs false

def ltT (i : Nat) : UInt8 := if i = 0 then 84 else if i = 1 then 75 else 86
def ltN (i : Nat) : UInt8 := if i = 0 then 79 else if i = 1 then 78 else if i = 2 then 80 else 83
def fT (r : Rq) (i : Nat) : By := if i = 0 then r.topic else if i = 1 then r.key else r.value
def fN (r : Rq) (i : Nat) : Int := if i = 0 then r.offset else if i = 1 then r.number else if i = 2 then r.pid else r.seq
theorem us_fld (op : Int) (h1 : 1 ≤ op) (h2 : op ≤ 15) : (usT op).map ltT ++ (usN op).map ltN = fldL op := by
  have key : ∀ i : Fin 15, (usT ((i.val : Int) + 1)).map ltT ++ (usN ((i.val : Int) + 1)).map ltN = fldL ((i.val : Int) + 1) := by decide +kernel
  have := key ⟨(op - 1).toNat, by omega⟩
  simp only at this
  rw [show ((op - 1).toNat : Int) + 1 = op by omega] at this
  exact this
theorem us_none (op : Int) (h : ¬ (1 ≤ op ∧ op ≤ 15)) : usT op = [] ∧ usN op = [] := by
  have k : ∀ r : Rq, r.op = op → okQ r = false := fun r e => by
    unfold okQ okR1
    rw [e, decide_eq_false h]
    simp
  unfold usT usN
  constructor
  · rw [List.filter_eq_nil_iff]
    intro i _
    rw [k (smT op i) rfl]; simp
  · rw [List.filter_eq_nil_iff]
    intro i _
    rw [k (smN op i) rfl]; simp
theorem usT_lt {op : Int} {i : Nat} (h : i ∈ usT op) : i < 3 := by
  unfold usT at h
  exact List.mem_range.1 (List.mem_filter.1 h).1
theorem usN_lt {op : Int} {i : Nat} (h : i ∈ usN op) : i < 4 := by
  unfold usN at h
  exact List.mem_range.1 (List.mem_filter.1 h).1
theorem usT_len (op : Int) : (usT op).length ≤ 3 := by
  unfold usT
  have := List.length_filter_le (fun i => okQ (smT op i)) (List.range 3)
  simpa using this
theorem usN_len (op : Int) : (usN op).length ≤ 4 := by
  unfold usN
  have := List.length_filter_le (fun i => okQ (smN op i)) (List.range 4)
  simpa using this
theorem fld_T (r : Rq) {i : Nat} (h : i < 3) : fldT r (ltT i) = txt (fT r i) := by
  have : i = 0 ∨ i = 1 ∨ i = 2 := by omega
  rcases this with rfl | rfl | rfl <;> rfl
theorem fld_N (r : Rq) {i : Nat} (h : i < 4) : fldT r (ltN i) = Lib.itoa (fN r i) := by
  have : i = 0 ∨ i = 1 ∨ i = 2 ∨ i = 3 := by omega
  rcases this with rfl | rfl | rfl | rfl <;> rfl
theorem used_fld (r : Rq) (h1 : 1 ≤ r.op) (h2 : r.op ≤ 15) : (usT r.op).map (fun i => txt (fT r i)) ++ (usN r.op).map (fun i => Lib.itoa (fN r i)) = (fldL r.op).map (fldT r) := by
  rw [← us_fld r.op h1 h2, List.map_append, List.map_map, List.map_map]
  congr 1
  · exact List.map_congr_left fun i hi => (fld_T r (usT_lt hi)).symm
  · exact List.map_congr_left fun i hi => (fld_N r (usN_lt hi)).symm
theorem ptrs_get {g o : Nat} {l : List Nat} {k : Nat} (h : k < l.length) : (ptrs g o l)[k]? = some (.pointer (some ⟨g, o + l.getD k 0, none⟩)) := by
  unfold ptrs
  rw [List.getElem?_map, List.getElem?_eq_getElem h, List.getD_eq_getElem?_getD, List.getElem?_eq_getElem h]; rfl
theorem ptrs_len (g o : Nat) (l : List Nat) : (ptrs g o l).length = l.length := by unfold ptrs; rw [List.length_map]
/-- A new row is none of the writer's. -/
theorem Wr.guardO {P : Nat → Prop} {W w w' : World} {g : Nat} {l : List By} (h : Wr P W w g l) (hb : Below w.heap.size w w') (r : Option Nat) (h1 : ∀ x, r = some x → w.heap.size ≤ x ∧ x < w'.heap.size) : Wr (fun b => P b ∨ r = some b) W w' g l := by
  have hg := h.lt
  obtain ⟨v, r', k1, k2, k3, k4, k5⟩ := h.ex
  refine ⟨⟨v, r', (hb.cell (cell_lt k1)).trans k1, (hb.frozen (cell_lt k1)).trans k2, ownV_later k3 hb, fun x e => ⟨(k4 x e).1, ?_⟩, k5⟩, h.ge, ?_, below_on h.bel hb, ?_⟩
  · rintro (k | k)
    · exact (k4 x e).2 k
    · subst e
      have := k3.lt
      have := (h1 x k).1
      omega
  · rintro (k | k)
    · exact h.np k
    · have := (h1 g k).1; omega
  · rintro b (k | k)
    · exact Nat.lt_of_lt_of_le (h.pb b k) hb.size
    · exact (h1 b k).2
theorem ownv_lt {w : World} {v : Value} {vs : List Value} {r : Option Nat} (h : OwnV w v vs r) : ∀ x, r = some x → x < w.heap.size := fun x e => by
  subst e; exact h.lt
/-- What stands at a place of such a row, as long as its block is kept. -/
theorem ownv_at {w u : World} {n c : Nat} {a : Option Addr} {vs : List Value} {r : Option Nat} (h : OwnV w (.slice a n c) vs r) {k : Nat} {v : Value} (hk : vs[k]? = some v) {P : Nat → Prop} (hp : Kp P w u) (hr : ∀ x, r = some x → P x) : ∃ b, a = some ⟨b, 0, none⟩ ∧ u.cell? ⟨b, k, none⟩ = some v := by
  obtain ⟨b, e1, e2, e3⟩ := h.get hk
  exact ⟨b, e2, (hp.cell (hr b e1)).trans e3⟩
end Go.Proofs.YtlnppgjppfkocaaGreatDoor.Xs
