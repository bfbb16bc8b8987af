import Derived.Test.YtlnppgjppfkocaaDoorYbE
/-! The program's Show: a record. -/
namespace Go.Proofs.YtlnppgjppfkocaaDoor.Xs
open Go.RowKit Plain
set_option linter.unusedVariables false
set_option linter.unusedSimpArgs false

def fourN (x : Sr) : List Int := [x.offset, x.time, x.pid, x.seq]
theorem SrAt.kp {P : Nat → Prop} {w w' : World} {b o : Nat} {x : Sr} (h : SrAt w b o x) (k : Kp P w w') (hb : P b) : SrAt w' b o x :=
  ⟨(k.cell hb).trans h.c0, (k.cell hb).trans h.c1, (k.cell hb).trans h.c2, (k.cell hb).trans h.c3, (k.cell hb).trans h.c4, (k.cell hb).trans h.c5, (k.cell hb).trans h.c6⟩
theorem ints_new (w : World) (l : List Int) (C : Array Value) (t : TypeId) (hC : C = (l.map (Value.int .i64)).toArray) {j : Nat} {n : Int} (hj : l[j]? = some n) : (w.alloc (.cells C t)).cell? ⟨w.heap.size, j, none⟩ = some (.int .i64 n) := by
  rw [World.cell?_alloc_at _ _ _ _ rfl, hC, List.getElem?_toArray, List.getElem?_map, hj]; rfl
theorem four_all {x : Sr} (ok : x.Ok) : ∀ n ∈ fourN x, I64 n := by
  intro n hn
  simp only [fourN, List.mem_cons, List.not_mem_nil, or_false] at hn
  rcases hn with e | e | e | e <;> rw [e]
  · exact ok.offset
  · exact ok.time
  · exact ok.pid
  · exact ok.seq
abbrev srA (x : Sr) : Array Value := #[.int .i64 x.kind, .int .i64 x.offset, .int .i64 x.time, .int .i64 x.pid, .int .i64 x.seq, .string (ba x.key), .string (ba x.value)]
theorem srBox (w : World) (x : Sr) (t : TypeId) : SrAt (w.alloc (.cells (srA x) t)) w.heap.size 0 x := by
  have k : ∀ (i : Nat) v, (srA x)[i]? = some v → (w.alloc (.cells (srA x) t)).cell? ⟨w.heap.size, 0 + i, none⟩ = some v := fun i v hv => by
    rw [World.cell?_alloc_at _ _ _ _ rfl, Nat.zero_add]; exact hv
  exact ⟨k 0 _ rfl, k 1 _ rfl, k 2 _ rfl, k 3 _ rfl, k 4 _ rfl, k 5 _ rfl, k 6 _ rfl⟩
set_option maxHeartbeats 16000000 in
set_option maxRecDepth 100000 in
theorem recOf (x : Sr) (ok : x.Ok) (hk : x.key.length ≤ 8796093022208) (hv : x.value.length ≤ 8796093022208) (P : Nat → Prop) (W w : World) (g : Nat) (l : List By) (hT : Tab W) (h : Wr P W w g l) (hl : l.length ≤ 8796093021000) :
    Calls Tryd.prog 13 #[.pointer (some ⟨g, 0, none⟩), .agg (srA x)] w fun e w' => e = .returned (.tuple #[]) ∧ Wr P W w' g (l ++ recT x) ∧ Kp P w w' := by
  obtain ⟨W1, hW1⟩ : ∃ W1, w.alloc (.cells (srA x) 28) = W1 := ⟨_, rfl⟩
  have HX : Hid (SrAt W1 w.heap.size 0 x) := by rw [← hW1]; exact srBox w x _
  have HB1 : Hid (Below w.heap.size w W1) := by rw [← hW1]; exact (Below.refl _ w).alloc (Nat.le_refl _) _
  have s00 := HX.out.c0
  have hX := cell_lt s00
  simp only at hX
  have HTb : Hid (∀ u, Below W.heap.size W u → Tab u) := fun u hu => hT.later hu
  have HWg := h.guard HB1.out (Nat.le_refl _) hX
  have HKw : Hid (Kp P w W1) := h.kp HB1.out
  obtain ⟨X0, hX0⟩ : ∃ X0, w.heap.size = X0 := ⟨_, rfl⟩
  rw [hX0] at HX s00 hX HWg
  obtain ⟨P1, hP1⟩ : ∃ P1, (fun b => P b ∨ b = X0) = P1 := ⟨_, rfl⟩
  rw [hP1] at HWg
  have HW1 := mkW HWg
  have HP1 : Hid (P1 X0 ∧ ∀ b, P b → P1 b) := ⟨by rw [← hP1]; exact .inr rfl, fun b k => by rw [← hP1]; exact .inl k⟩
  clear HWg hP1
  go_enter Tryd.func13, Tryd.ntmps13
  go_wp2_with fail
  clear hX0 hW1 HB1 h
  refine wp_region_noPanic ?_
  refine Till.start 5 (S := fun u => u.cell? ⟨X0, 0, none⟩ = some (.int .i64 x.kind)) (by kernel_rfl) s00 (fun hHeld => ?_)
  refine' Till.take 0 rfl (by kernel_rfl) (by kernel_rfl) (by kernel_rfl) (by kernel_rfl) (fun _ _ _ h => h) (Or.inl ⟨by rfl, ?_⟩) (by assumption) ?_
  rotate_left
  · (intro w hSw; (try dsimp only at hSw); go_simp <;> with_reducible rfl)
  try simp only [Act.put, List.setIfInBounds_toArray, List.set_cons_zero, List.set_cons_succ]
  refine' Till.take 2 rfl (by kernel_rfl) (by kernel_rfl) (by kernel_rfl) (by kernel_rfl) (fun _ _ _ h => h) (Or.inl ⟨by rfl, ?_⟩) (by assumption) ?_
  rotate_left
  · (intro w hSw; (try dsimp only at hSw); go_simp <;> with_reducible rfl)
  try simp only [Act.put, List.setIfInBounds_toArray, List.set_cons_zero, List.set_cons_succ]
  refine' Till.take 3 rfl (by kernel_rfl) (by kernel_rfl) (by kernel_rfl) (by kernel_rfl) (fun _ _ _ h => h) (Or.inl ⟨by rfl, ?_⟩) (by assumption) ?_
  rotate_left
  · (intro w hSw; (try dsimp only at hSw); go_simp <;> with_reducible rfl)
  try simp only [Act.put, List.setIfInBounds_toArray, List.set_cons_zero, List.set_cons_succ]
  refine Till.one 1 (by kernel_rfl) rfl (fun K hK => ?_)
  go_simp
  go_at_call 23
  refine (kindWordsOf _).mono ?_
  rintro e wa ⟨va, rfl, hna, hba⟩
  refine hK.out _ _ ?_ (fun hHeld => ?_)
  · exact (hba.cell hX).trans s00
  clear hK K
  try simp only [Act.put, List.setIfInBounds_toArray, List.set_cons_zero, List.set_cons_succ]
  have hWa : Wr P1 W wa g l := HW1.out.drew.later hba
  have hKa : Kp P1 W1 wa := (HW1.out.kp (Below.refl _ W1).drew).trans (HW1.out.drew.kp hba)
  have sa0 : wa.cell? ⟨X0, 0, none⟩ = some (.int .i64 x.kind) := (hba.cell hX).trans s00
  refine Till.one 4 (by kernel_rfl) rfl (fun K hK => ?_)
  go_simp
  go_at_call 8
  refine (namedOf kindsL va x.kind ok.kind kindP (by decide) _ hna (HTb.out _ hWa.bel)).mono ?_
  rintro e wb ⟨rfl, hbb⟩
  refine hK.out _ _ ?_ (fun hHeld => ?_)
  · exact (hbb.cell (cell_lt sa0)).trans sa0
  clear hK K
  try simp only [Act.put, List.setIfInBounds_toArray, List.set_cons_zero, List.set_cons_succ]
  refine Till.last (by kernel_rfl) (by kernel_rfl) rfl (fun K hK => ?_)
  go_simp
  go_at_call 7
  refine (wordOf _ P1 W _ g l (hWa.later hbb) (by omega)).mono ?_
  rintro e wc ⟨rfl, hWc, hKc⟩
  refine hK.out _ _ ?_
  clear hK K
  try simp only [Act.put, List.setIfInBounds_toArray, List.set_cons_zero, List.set_cons_succ]
  refine NoPanic.normal ?_
  rw [named_kind] at hWc
  have HWc := mkW hWc
  have HKc : Hid (Kp P1 W1 wc) := hKa.trans ((hWa.kp hbb).trans hKc)
  have HXc : Hid (SrAt wc X0 0 x) := HX.out.kp HKc.out HP1.out.1
  obtain ⟨l1, hl1⟩ : ∃ l1, l ++ [kindT x.kind] = l1 := ⟨_, rfl⟩
  have hl1n : l1.length = l.length + 1 := by rw [← hl1]; simp
  rw [hl1] at HWc
  have HL1 := mkW hl1
  have e1 : SrAt wc X0 0 x := HXc.out
  have c1 := e1.c1
  have c2 := e1.c2
  have c3 := e1.c3
  have c4 := e1.c4
  rw [Nat.zero_add] at c1 c2 c3 c4
  have hXc := cell_lt c1
  clear hWc hWa hKa hKc hba hbb hna sa0 s00 hHeld hX hl1 e1 HX
  obtain ⟨W2, hW2⟩ : ∃ W2, wc.alloc (.cells #[.int .i64 x.offset, .int .i64 x.time, .int .i64 x.pid, .int .i64 x.seq] 2) = W2 := ⟨_, rfl⟩
  have hN2 : ∀ (j : Nat) n, (fourN x)[j]? = some n → W2.cell? ⟨wc.heap.size, j, none⟩ = some (.int .i64 n) := fun j n hj => by
    rw [← hW2]; exact ints_new wc (fourN x) _ 2 rfl hj
  have hB2 : Below wc.heap.size wc W2 := by rw [← hW2]; exact (Below.refl _ wc).alloc (Nat.le_refl _) _
  have hX1 := cell_lt (hN2 0 _ rfl)
  simp only at hX1
  have hWg2 := HWc.out.guard hB2 (Nat.le_refl _) hX1
  have hKw2 := HWc.out.kp hB2
  obtain ⟨X1, hX1e⟩ : ∃ X1, wc.heap.size = X1 := ⟨_, rfl⟩
  rw [hX1e] at hN2 hX1 hWg2
  obtain ⟨P2, hP2⟩ : ∃ P2, (fun b => P1 b ∨ b = X1) = P2 := ⟨_, rfl⟩
  rw [hP2] at hWg2
  have HP2 : Hid (P2 X1 ∧ (∀ b, P1 b → P2 b)) := ⟨by rw [← hP2]; exact .inr rfl, fun b k => by rw [← hP2]; exact .inl k⟩
  have HW2 := mkW hWg2
  have HKw2 := mkW hKw2
  have HN2 := mkW hN2
  have H4 : Hid (∀ n ∈ fourN x, I64 n) := four_all ok
  clear hWg2 hP2 hB2 hN2 hKw2
  go_wp2_with fail
  clear hX1e hW2 c1 c2 c3 c4
  go_loopw [22] (fun i wl => ∃ (k : Nat), k ≤ 4 ∧ i = .int .i64 k ∧ Hid (Wr P2 W wl g (l1 ++ ((fourN x).take k).map Lib.itoa)) ∧ Hid (Kp P2 W2 wl)) (fun i _ => 10 - (intOf i).toNat)
  case atStart => exact ⟨0, by omega, rfl, by simpa using HW2, Kp.refl _ _⟩
  case round =>
    clear HW2
    obtain ⟨k, hk4, rfl, HW, HK⟩ := hrel
    by_cases hp : k < 4
    · have hki : (k : Int) < 4 := by omega
      have hlen : (fourN x).length = 4 := rfl
      obtain ⟨n, hn⟩ : ∃ n, (fourN x)[k]? = some n := ⟨_, List.getElem?_eq_getElem (by omega)⟩
      have hnI : I64 n := H4.out n (List.mem_of_getElem? hn)
      have cn : wr.cell? ⟨X1, k, none⟩ = some (.int .i64 n) := (HK.out.cell HP2.out.1).trans (HN2.out k n hn)
      have HT : Hid (l1 ++ ((fourN x).take k).map Lib.itoa ++ [Lib.itoa n] = l1 ++ ((fourN x).take (k + 1)).map Lib.itoa) := by
        unfold Hid
        rw [List.take_succ_eq_append_getElem (by omega : k < (fourN x).length), List.map_append, List.append_assoc]
        rw [List.getElem?_eq_getElem (by omega : k < (fourN x).length)] at hn
        rw [Option.some.inj hn]; rfl
      have hll : (l1 ++ ((fourN x).take k).map Lib.itoa).length ≤ 8796093022000 := by
        rw [List.length_append, List.length_map, List.length_take]; omega
      obtain ⟨lk, hlk⟩ : ∃ lk, l1 ++ ((fourN x).take k).map Lib.itoa = lk := ⟨_, rfl⟩
      rw [hlk] at HW HT hll
      have HC : Hid (Calls Tryd.prog 6 #[.pointer (some ⟨g, 0, none⟩), .int .i64 n] wr fun e w' => e = .returned (.tuple #[]) ∧ Wr P2 W w' g (lk ++ [Lib.itoa n]) ∧ Kp P2 wr w') := numOf n hnI P2 W _ g lk hT HW.out hll
      clear hlk hn hnI hlen
      go_wp2_with (go_at_call 6; refine HC.out.mono ?_; rintro e wd ⟨rfl, hwd, hkd⟩)
      have HWd := mkW hwd
      have HKd := mkW (HK.out.trans hkd)
      rw [HT.out] at HWd
      clear hwd hkd HC HW HK cn HT
      go_wp2
      go_roundw
      case rel => exact ⟨k + 1, by omega, by go_num, HWd, HKd⟩
      case measure => (first | (simp [intOf]; omega) | omega | (show _ < _; simp only [intOf]; omega))
    · have hki : ¬ (k : Int) < 4 := by omega
      have hk : k = 4 := by omega
      subst hk
      have HKx : Hid (Kp P1 wc wr) := HKw2.out.trans (HK.out.weak HP2.out.2)
      have e5 := (HXc.out.kp HKx.out HP1.out.1).c5
      rw [Nat.zero_add] at e5
      have HKx1 : Hid (Kp P1 W1 wr) := HKc.out.trans HKx.out
      have HW5 : Hid (Wr P1 W wr g (l1 ++ (fourN x).map Lib.itoa)) := HW.out.weak HP2.out.2
      have hl5 : (l1 ++ (fourN x).map Lib.itoa).length ≤ 8796093021100 := by
        rw [List.length_append, List.length_map]
        have : (fourN x).length = 4 := rfl
        omega
      have HE : Hid (l1 ++ (fourN x).map Lib.itoa ++ [txt x.key] ++ [txt x.value] = l ++ recT x) := by
        unfold Hid; rw [← HL1.out]; simp [fourN, recT]
      obtain ⟨l5, hl5e⟩ : ∃ l5, l1 ++ (fourN x).map Lib.itoa = l5 := ⟨_, rfl⟩
      rw [hl5e] at HW5 hl5 HE
      clear hl5e HW HK
      have HTK : Hid (∀ wd, Kp P1 wr wd → wd.cell? ⟨X0, 6, none⟩ = some (.string (ba x.value))) := fun wd hkd => by
        have e6 := (HXc.out.kp (HKx.out.trans hkd) HP1.out.1).c6
        rwa [Nat.zero_add] at e6
      go_wp2_with (go_at_call_of 12 (Value.string (ba x.key)); refine (textOf x.key hk P1 W _ g l5 HW5.out (by omega)).mono ?_; rintro e wd ⟨rfl, hwd, hkd⟩; have e6 := HTK.out wd hkd)
      have HWd := mkW hwd
      have HKd := mkW (HKx1.out.trans hkd)
      clear hwd hkd e5 HTK
      go_wp2_with (go_at_call 12; refine (textOf x.value hv P1 W _ g _ HWd.out (by rw [List.length_append]; simp; omega)).mono ?_; rintro e we ⟨rfl, hwe, hke⟩)
      rw [HE.out] at hwe
      have hfin := HKw.out.trans ((HKd.out.trans hke).weak HP1.out.2)
      go_end0
      exact ⟨rfl, hwe.weak HP1.out.2, hfin⟩
end Go.Proofs.YtlnppgjppfkocaaDoor.Xs
