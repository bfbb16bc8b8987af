import Derived.Test.YtlnppgjppfkocaaGreatDoorGq32
import Derived.Test.YtlnppgjppfkocaaGreatDoorGq29
/-! Which fields of a request its operation uses. -/
namespace Go.Proofs.YtlnppgjppfkocaaGreatDoor.Xs
open Go.RowKit Plain
set_option linter.unusedVariables false
set_option linter.unusedSimpArgs false

def smT (op : Int) (i : Nat) : Rq := ⟨0, op, if i = 0 then [120] else [], if i = 1 then [120] else [], if i = 2 then [120] else [], 0, 0, 0, 0⟩
def smN (op : Int) (i : Nat) : Rq := ⟨0, op, [], [], [], if i = 0 then 1 else 0, if i = 1 then 1 else 0, if i = 2 then 1 else 0, if i = 3 then 1 else 0⟩
def okQ (r : Rq) : Bool := okR1 r && okR2 r && okR3 r
def usT (op : Int) : List Nat := (List.range 3).filter fun i => okQ (smT op i)
def usN (op : Int) : List Nat := (List.range 4).filter fun i => okQ (smN op i)
def ptrs (g o : Nat) (l : List Nat) : List Value := l.map fun i => .pointer (some ⟨g, o + i, none⟩)
set_option maxHeartbeats 16000000 in
set_option maxRecDepth 100000 in
theorem usedTOf (g o : Nat) (op : Int) (w : World) (ho : OpsAt w) (hc : w.cell? ⟨g, o + 1, none⟩ = some (.int .i64 op)) :
    Calls Tryz.prog 96 #[.pointer (some ⟨g, o, none⟩), fnV 97, .string (ba [120])] w fun e w' => ∃ v r, e = .returned v ∧ OwnV w' v (ptrs g (o + 2) (usT op)) r ∧ (∀ x, r = some x → w.heap.size ≤ x) ∧ Below w.heap.size w w' := by
  have hgl := cell_lt hc
  simp only at hgl
  have HO : Hid (∀ u, Below w.heap.size w u → OpsAt u) := fun u hu => ho.later hu
  have HOP : Hid (∀ u, Below w.heap.size w u → u.cell? ⟨g, o + 1, none⟩ = some (.int .i64 op)) := fun u hu => (hu.cell hgl).trans hc
  go_enter Tryz.func96, Tryz.ntmps96
  go_wp2_with (go_at_call 97; refine (qtextsOfOf g o _).mono ?_; rintro e w1 ⟨rfl, hw1'⟩; have HW1 := mkW hw1'; clear hw1')
  have hw1 := HW1.out
  have HB1 : Hid (Below w.heap.size w w1) := by unfold Hid; rw [hw1]; exact ((Below.refl _ w).alloc (Nat.le_refl _) _).drew
  have HL1 : Hid (∀ i, i < 3 → w1.cell? ⟨w.heap.size, i, none⟩ = some (.pointer (some ⟨g, o + 2 + i, none⟩))) := fun i hi => by
    rw [hw1]
    show (w.alloc _).cell? _ = _
    rw [World.cell?_alloc_at _ _ _ _ rfl]
    rcases i with _ | _ | _ | i
    all_goals first | rfl | omega
  have hsz1 : w1.heap.size = w.heap.size + 1 := by rw [hw1]; simp [World.drew]
  clear hw1 HW1 hc
  go_wp2_with fail
  go_loopw [7, 15] (fun v i wl => ∃ (k : Nat) (r : Option Nat), k ≤ 3 ∧ i = .int .i64 k ∧ Hid (OwnV wl v (ptrs g (o + 2) ((List.range k).filter fun i => okQ (smT op i))) r) ∧ Hid (∀ x, r = some x → w1.heap.size ≤ x) ∧ Hid (Below w1.heap.size w1 wl)) (fun _ i _ => 10 - (intOf i).toNat)
  case atStart => exact ⟨0, none, by omega, rfl, OwnV.nil _, mkW (fun x e => by cases e), Below.refl _ _⟩
  case round =>
    obtain ⟨k, r, hk, rfl, HV, HR, HB⟩ := hrel
    by_cases hp : k < 3
    · have hki : (k : Int) < 3 := by omega
      have HBW : Hid (Below w.heap.size w wr) := HB1.out.trans (HB.out.mono HB1.out.size)
      have cl : wr.cell? ⟨w.heap.size, k, none⟩ = some (.pointer (some ⟨g, o + 2 + k, none⟩)) := (HB.out.cell (by show w.heap.size < w1.heap.size; omega)).trans (HL1.out k hp)
      have cop := HOP.out wr HBW.out
      have HNX : Hid (ptrs g (o + 2) ((List.range (k + 1)).filter fun i => okQ (smT op i)) = ptrs g (o + 2) ((List.range k).filter fun i => okQ (smT op i)) ++ (if okQ (smT op k) = true then [.pointer (some ⟨g, o + 2 + k, none⟩)] else [])) := by
        unfold Hid ptrs
        rw [List.range_succ, List.filter_append, List.map_append]
        congr 1
        cases hq : okQ (smT op k) <;> simp [hq]
      have hlen : (ptrs g (o + 2) ((List.range k).filter fun i => okQ (smT op i))).length ≤ 100 := by
        unfold ptrs
        rw [List.length_map]
        have := List.length_filter_le (fun i => okQ (smT op i)) (List.range k)
        rw [List.length_range] at this
        omega
      obtain ⟨L0, hL0⟩ : ∃ L, ptrs g (o + 2) ((List.range k).filter fun i => okQ (smT op i)) = L := ⟨_, rfl⟩
      rw [hL0] at HNX HV hlen
      have HLN := mkW hlen
      have hXs : w1.heap.size ≤ wr.heap.size := HB.out.size
      have HWX : Hid (w.heap.size ≤ wr.heap.size) := HBW.out.size
      have hgx : g < wr.heap.size := Nat.lt_of_lt_of_le hgl HBW.out.size
      clear hL0 hlen hXs
      have hk3 : k = 0 ∨ k = 1 ∨ k = 2 := by omega
      rcases hk3 with rfl | rfl | rfl
      · have HC : Hid (∀ u, Below w.heap.size w u → Calls Tryz.prog 43 #[.agg #[.int .u32 0, .int .i64 op, .string (ba [120]), .string ⟨#[]⟩, .string ⟨#[]⟩, .int .i64 0, .int .i64 0, .int .i64 0, .int .i64 0]] u fun e w' => e = .returned (.int .i64 (if okQ (smT op 0) = true then 0 else 161)) ∧ Below u.heap.size u w') := fun u hu => wcheckOf (smT op 0) u (HO.out u hu) (by simp [smT]) (by simp [smT]) (by simp [smT])
        go_wp2_with fail
        obtain ⟨w5, hw5⟩ : ∃ w5, wr.alloc (.cells #[.int .u32 0, .int .i64 op, .string ⟨#[]⟩, .string ⟨#[]⟩, .string ⟨#[]⟩, .int .i64 0, .int .i64 0, .int .i64 0, .int .i64 0] 24) = w5 := ⟨_, rfl⟩
        have HB5 : Hid (Below wr.heap.size wr w5) := by rw [← hw5]; exact (Below.refl _ _).alloc (Nat.le_refl _) _
        have hs5 : w5.heap.size = wr.heap.size + 1 := by rw [← hw5]; simp
        have HX5 : Hid (∀ j v, (#[.int .u32 0, .int .i64 op, .string ⟨#[]⟩, .string ⟨#[]⟩, .string ⟨#[]⟩, .int .i64 0, .int .i64 0, .int .i64 0, .int .i64 0] : Array Value)[j]? = some v → w5.cell? ⟨wr.heap.size, j, none⟩ = some v) := fun j v hj => by rw [← hw5, World.cell?_alloc_at _ _ _ _ rfl]; exact hj
        have HF5 : Hid (∀ j, w5.frozen? ⟨wr.heap.size, j, none⟩ = false) := fun j => by rw [← hw5]; exact World.frozen?_alloc_at _ _ _ _ rfl
        obtain ⟨b, hbq⟩ : ∃ b, okQ (smT op 0) = b := ⟨_, rfl⟩
        rw [hbq] at HC HNX
        clear hbq
        obtain ⟨Xs, hXs⟩ : ∃ X, wr.heap.size = X := ⟨_, rfl⟩
        have HXs := mkW hXs
        rw [hXs] at HX5 HF5 hs5
        rw [hw5]
        try rw [hXs]
        refine (qtextsOfOf Xs 0 _).mono ?_
        rintro e w6 ⟨rfl, hw6⟩
        have HB6 : Hid (Below w5.heap.size w5 w6) := by unfold Hid; rw [hw6]; exact ((Below.refl _ w5).alloc (Nat.le_refl _) _).drew
        have HP6 : w6.cell? ⟨w5.heap.size, 0, none⟩ = some (.pointer (some ⟨Xs, 0 + 2, none⟩)) := by
          rw [hw6]
          show (w5.alloc _).cell? _ = _
          rw [World.cell?_alloc_at _ _ _ _ rfl]; rfl
        have hX5l : Xs < w5.heap.size := by omega
        have HX6 : Hid (∀ j v, (#[.int .u32 0, .int .i64 op, .string ⟨#[]⟩, .string ⟨#[]⟩, .string ⟨#[]⟩, .int .i64 0, .int .i64 0, .int .i64 0, .int .i64 0] : Array Value)[j]? = some v → w6.cell? ⟨Xs, j, none⟩ = some v) := fun j v hj => (HB6.out.cell hX5l).trans (HX5.out j v hj)
        have f6 : w6.frozen? ⟨Xs, 2, none⟩ = false := (HB6.out.frozen hX5l).trans (HF5.out 2)
        have x0 : w6.cell? ⟨Xs, 0, none⟩ = some (.int .u32 0) := HX6.out 0 _ rfl
        have x1 : w6.cell? ⟨Xs, 1, none⟩ = some (.int .i64 op) := HX6.out 1 _ rfl
        have x2 : w6.cell? ⟨Xs, 2, none⟩ = some (.string ⟨#[]⟩) := HX6.out 2 _ rfl
        have x3 : w6.cell? ⟨Xs, 3, none⟩ = some (.string ⟨#[]⟩) := HX6.out 3 _ rfl
        have x4 : w6.cell? ⟨Xs, 4, none⟩ = some (.string ⟨#[]⟩) := HX6.out 4 _ rfl
        have x5 : w6.cell? ⟨Xs, 5, none⟩ = some (.int .i64 0) := HX6.out 5 _ rfl
        have x6 : w6.cell? ⟨Xs, 6, none⟩ = some (.int .i64 0) := HX6.out 6 _ rfl
        have x7 : w6.cell? ⟨Xs, 7, none⟩ = some (.int .i64 0) := HX6.out 7 _ rfl
        have x8 : w6.cell? ⟨Xs, 8, none⟩ = some (.int .i64 0) := HX6.out 8 _ rfl
        have HBa : Hid (Below wr.heap.size wr w6) := below_on HB5.out HB6.out
        have HBb : Hid (∀ v, Below wr.heap.size wr (w6.setCell ⟨Xs, 2, none⟩ v)) := fun v => HBa.out.setCell (Nat.le_of_eq HXs.out) _
        clear hw6 hw5 hXs HX5 HF5 HX6 HB6 HB5
        rw [Nat.zero_add, hs5] at HP6
        go_wp2_with fail
        refine (HC.out _ (HBW.out.trans ((HBb.out _).mono HWX.out))).mono ?_
        rintro e w8 ⟨rfl, hb8⟩
        have HB8 : Hid (Below wr.heap.size wr w8) := below_on (HBb.out _) hb8
        clear hb8 HBb HBa HC HXs HP6 f6 cop cl HBW x0 x1 x2 x3 x4 x5 x6 x7 x8
        cases b with
        | false =>
          rw [if_neg (by simp), List.append_nil] at HNX
          have HV8 := mkW (ownV_later HV.out HB8.out)
          have HBE : Hid (Below w1.heap.size w1 w8) := HB.out.trans (HB8.out.mono HB.out.size)
          rw [← HNX.out] at HV8
          clear HNX HV HB HB8
          go_wp2
          go_roundw
          case rel => exact ⟨1, r, by omega, by go_num, HV8, HR, HBE⟩
          case measure => (first | (simp [intOf]; omega) | omega | (show _ < _; simp only [intOf]; omega))
        | true =>
          rw [if_pos rfl] at HNX
          go_wp2_with (at_builtin; refine wpList_append_sps (w8.alloc (.cells #[.pointer (some ⟨g, o + 2, none⟩)] 118)) rfl _ _ rfl _ _ L0 [.pointer (some ⟨g, o + 2, none⟩)] r rfl rfl ?hO ?hS ?hL ?hR ?_)
          case hO => exact ownV_later (ownV_later HV.out HB8.out) ((Below.refl _ _).alloc (Nat.le_refl _) _)
          case hS => exact src_sps w8 _ rfl
          case hL => have := HLN.out; simp; omega
          case hR => exact .inr (by simp)
          intro v' w9 g9 ho9 hg9 hr9
          have HBA : Hid (Below w1.heap.size w1 w9) := by
            have h1 : Below w1.heap.size w1 (w8.alloc (.cells #[.pointer (some ⟨g, o + 2, none⟩)] 118)) := (HB.out.trans (HB8.out.mono HB.out.size)).alloc (Nat.le_trans HB.out.size HB8.out.size) _
            exact h1.grown hg9 h1.size HR.out
          have HR9 : Hid (∀ x, some g9 = some x → w1.heap.size ≤ x) := fun x e => by
            cases e
            rcases hr9 with e | e
            · exact HR.out _ e.symm
            · rw [e]; exact Nat.le_trans HB.out.size (Nat.le_succ_of_le HB8.out.size)
          have HV9 := mkW ho9
          have HNX' : Hid (ptrs g (o + 2) ((List.range 1).filter fun i => okQ (smT op i)) = L0 ++ [.pointer (some ⟨g, o + 2, none⟩)]) := HNX.out
          rw [← HNX'.out] at HV9
          clear ho9 hg9 hr9 HV HB HB8 HNX HNX'
          go_wp2
          go_roundw
          case rel => exact ⟨1, some g9, by omega, by go_num, HV9, HR9, HBA⟩
          case measure => (first | (simp [intOf]; omega) | omega | (show _ < _; simp only [intOf]; omega))
      · have HC : Hid (∀ u, Below w.heap.size w u → Calls Tryz.prog 43 #[.agg #[.int .u32 0, .int .i64 op, .string ⟨#[]⟩, .string (ba [120]), .string ⟨#[]⟩, .int .i64 0, .int .i64 0, .int .i64 0, .int .i64 0]] u fun e w' => e = .returned (.int .i64 (if okQ (smT op 1) = true then 0 else 161)) ∧ Below u.heap.size u w') := fun u hu => wcheckOf (smT op 1) u (HO.out u hu) (by simp [smT]) (by simp [smT]) (by simp [smT])
        go_wp2_with fail
        obtain ⟨w5, hw5⟩ : ∃ w5, wr.alloc (.cells #[.int .u32 0, .int .i64 op, .string ⟨#[]⟩, .string ⟨#[]⟩, .string ⟨#[]⟩, .int .i64 0, .int .i64 0, .int .i64 0, .int .i64 0] 24) = w5 := ⟨_, rfl⟩
        have HB5 : Hid (Below wr.heap.size wr w5) := by rw [← hw5]; exact (Below.refl _ _).alloc (Nat.le_refl _) _
        have hs5 : w5.heap.size = wr.heap.size + 1 := by rw [← hw5]; simp
        have HX5 : Hid (∀ j v, (#[.int .u32 0, .int .i64 op, .string ⟨#[]⟩, .string ⟨#[]⟩, .string ⟨#[]⟩, .int .i64 0, .int .i64 0, .int .i64 0, .int .i64 0] : Array Value)[j]? = some v → w5.cell? ⟨wr.heap.size, j, none⟩ = some v) := fun j v hj => by rw [← hw5, World.cell?_alloc_at _ _ _ _ rfl]; exact hj
        have HF5 : Hid (∀ j, w5.frozen? ⟨wr.heap.size, j, none⟩ = false) := fun j => by rw [← hw5]; exact World.frozen?_alloc_at _ _ _ _ rfl
        obtain ⟨b, hbq⟩ : ∃ b, okQ (smT op 1) = b := ⟨_, rfl⟩
        rw [hbq] at HC HNX
        clear hbq
        obtain ⟨Xs, hXs⟩ : ∃ X, wr.heap.size = X := ⟨_, rfl⟩
        have HXs := mkW hXs
        rw [hXs] at HX5 HF5 hs5
        rw [hw5]
        try rw [hXs]
        refine (qtextsOfOf Xs 0 _).mono ?_
        rintro e w6 ⟨rfl, hw6⟩
        have HB6 : Hid (Below w5.heap.size w5 w6) := by unfold Hid; rw [hw6]; exact ((Below.refl _ w5).alloc (Nat.le_refl _) _).drew
        have HP6 : w6.cell? ⟨w5.heap.size, 1, none⟩ = some (.pointer (some ⟨Xs, 0 + 3, none⟩)) := by
          rw [hw6]
          show (w5.alloc _).cell? _ = _
          rw [World.cell?_alloc_at _ _ _ _ rfl]; rfl
        have hX5l : Xs < w5.heap.size := by omega
        have HX6 : Hid (∀ j v, (#[.int .u32 0, .int .i64 op, .string ⟨#[]⟩, .string ⟨#[]⟩, .string ⟨#[]⟩, .int .i64 0, .int .i64 0, .int .i64 0, .int .i64 0] : Array Value)[j]? = some v → w6.cell? ⟨Xs, j, none⟩ = some v) := fun j v hj => (HB6.out.cell hX5l).trans (HX5.out j v hj)
        have f6 : w6.frozen? ⟨Xs, 3, none⟩ = false := (HB6.out.frozen hX5l).trans (HF5.out 3)
        have x0 : w6.cell? ⟨Xs, 0, none⟩ = some (.int .u32 0) := HX6.out 0 _ rfl
        have x1 : w6.cell? ⟨Xs, 1, none⟩ = some (.int .i64 op) := HX6.out 1 _ rfl
        have x2 : w6.cell? ⟨Xs, 2, none⟩ = some (.string ⟨#[]⟩) := HX6.out 2 _ rfl
        have x3 : w6.cell? ⟨Xs, 3, none⟩ = some (.string ⟨#[]⟩) := HX6.out 3 _ rfl
        have x4 : w6.cell? ⟨Xs, 4, none⟩ = some (.string ⟨#[]⟩) := HX6.out 4 _ rfl
        have x5 : w6.cell? ⟨Xs, 5, none⟩ = some (.int .i64 0) := HX6.out 5 _ rfl
        have x6 : w6.cell? ⟨Xs, 6, none⟩ = some (.int .i64 0) := HX6.out 6 _ rfl
        have x7 : w6.cell? ⟨Xs, 7, none⟩ = some (.int .i64 0) := HX6.out 7 _ rfl
        have x8 : w6.cell? ⟨Xs, 8, none⟩ = some (.int .i64 0) := HX6.out 8 _ rfl
        have HBa : Hid (Below wr.heap.size wr w6) := below_on HB5.out HB6.out
        have HBb : Hid (∀ v, Below wr.heap.size wr (w6.setCell ⟨Xs, 3, none⟩ v)) := fun v => HBa.out.setCell (Nat.le_of_eq HXs.out) _
        clear hw6 hw5 hXs HX5 HF5 HX6 HB6 HB5
        rw [Nat.zero_add, hs5] at HP6
        go_wp2_with fail
        refine (HC.out _ (HBW.out.trans ((HBb.out _).mono HWX.out))).mono ?_
        rintro e w8 ⟨rfl, hb8⟩
        have HB8 : Hid (Below wr.heap.size wr w8) := below_on (HBb.out _) hb8
        clear hb8 HBb HBa HC HXs HP6 f6 cop cl HBW x0 x1 x2 x3 x4 x5 x6 x7 x8
        cases b with
        | false =>
          rw [if_neg (by simp), List.append_nil] at HNX
          have HV8 := mkW (ownV_later HV.out HB8.out)
          have HBE : Hid (Below w1.heap.size w1 w8) := HB.out.trans (HB8.out.mono HB.out.size)
          rw [← HNX.out] at HV8
          clear HNX HV HB HB8
          go_wp2
          go_roundw
          case rel => exact ⟨2, r, by omega, by go_num, HV8, HR, HBE⟩
          case measure => (first | (simp [intOf]; omega) | omega | (show _ < _; simp only [intOf]; omega))
        | true =>
          rw [if_pos rfl] at HNX
          go_wp2_with (at_builtin; refine wpList_append_sps (w8.alloc (.cells #[.pointer (some ⟨g, o + 3, none⟩)] 118)) rfl _ _ rfl _ _ L0 [.pointer (some ⟨g, o + 3, none⟩)] r rfl rfl ?hO ?hS ?hL ?hR ?_)
          case hO => exact ownV_later (ownV_later HV.out HB8.out) ((Below.refl _ _).alloc (Nat.le_refl _) _)
          case hS => exact src_sps w8 _ rfl
          case hL => have := HLN.out; simp; omega
          case hR => exact .inr (by simp)
          intro v' w9 g9 ho9 hg9 hr9
          have HBA : Hid (Below w1.heap.size w1 w9) := by
            have h1 : Below w1.heap.size w1 (w8.alloc (.cells #[.pointer (some ⟨g, o + 3, none⟩)] 118)) := (HB.out.trans (HB8.out.mono HB.out.size)).alloc (Nat.le_trans HB.out.size HB8.out.size) _
            exact h1.grown hg9 h1.size HR.out
          have HR9 : Hid (∀ x, some g9 = some x → w1.heap.size ≤ x) := fun x e => by
            cases e
            rcases hr9 with e | e
            · exact HR.out _ e.symm
            · rw [e]; exact Nat.le_trans HB.out.size (Nat.le_succ_of_le HB8.out.size)
          have HV9 := mkW ho9
          have HNX' : Hid (ptrs g (o + 2) ((List.range 2).filter fun i => okQ (smT op i)) = L0 ++ [.pointer (some ⟨g, o + 3, none⟩)]) := HNX.out
          rw [← HNX'.out] at HV9
          clear ho9 hg9 hr9 HV HB HB8 HNX HNX'
          go_wp2
          go_roundw
          case rel => exact ⟨2, some g9, by omega, by go_num, HV9, HR9, HBA⟩
          case measure => (first | (simp [intOf]; omega) | omega | (show _ < _; simp only [intOf]; omega))
      · have HC : Hid (∀ u, Below w.heap.size w u → Calls Tryz.prog 43 #[.agg #[.int .u32 0, .int .i64 op, .string ⟨#[]⟩, .string ⟨#[]⟩, .string (ba [120]), .int .i64 0, .int .i64 0, .int .i64 0, .int .i64 0]] u fun e w' => e = .returned (.int .i64 (if okQ (smT op 2) = true then 0 else 161)) ∧ Below u.heap.size u w') := fun u hu => wcheckOf (smT op 2) u (HO.out u hu) (by simp [smT]) (by simp [smT]) (by simp [smT])
        go_wp2_with fail
        obtain ⟨w5, hw5⟩ : ∃ w5, wr.alloc (.cells #[.int .u32 0, .int .i64 op, .string ⟨#[]⟩, .string ⟨#[]⟩, .string ⟨#[]⟩, .int .i64 0, .int .i64 0, .int .i64 0, .int .i64 0] 24) = w5 := ⟨_, rfl⟩
        have HB5 : Hid (Below wr.heap.size wr w5) := by rw [← hw5]; exact (Below.refl _ _).alloc (Nat.le_refl _) _
        have hs5 : w5.heap.size = wr.heap.size + 1 := by rw [← hw5]; simp
        have HX5 : Hid (∀ j v, (#[.int .u32 0, .int .i64 op, .string ⟨#[]⟩, .string ⟨#[]⟩, .string ⟨#[]⟩, .int .i64 0, .int .i64 0, .int .i64 0, .int .i64 0] : Array Value)[j]? = some v → w5.cell? ⟨wr.heap.size, j, none⟩ = some v) := fun j v hj => by rw [← hw5, World.cell?_alloc_at _ _ _ _ rfl]; exact hj
        have HF5 : Hid (∀ j, w5.frozen? ⟨wr.heap.size, j, none⟩ = false) := fun j => by rw [← hw5]; exact World.frozen?_alloc_at _ _ _ _ rfl
        obtain ⟨b, hbq⟩ : ∃ b, okQ (smT op 2) = b := ⟨_, rfl⟩
        rw [hbq] at HC HNX
        clear hbq
        obtain ⟨Xs, hXs⟩ : ∃ X, wr.heap.size = X := ⟨_, rfl⟩
        have HXs := mkW hXs
        rw [hXs] at HX5 HF5 hs5
        rw [hw5]
        try rw [hXs]
        refine (qtextsOfOf Xs 0 _).mono ?_
        rintro e w6 ⟨rfl, hw6⟩
        have HB6 : Hid (Below w5.heap.size w5 w6) := by unfold Hid; rw [hw6]; exact ((Below.refl _ w5).alloc (Nat.le_refl _) _).drew
        have HP6 : w6.cell? ⟨w5.heap.size, 2, none⟩ = some (.pointer (some ⟨Xs, 0 + 4, none⟩)) := by
          rw [hw6]
          show (w5.alloc _).cell? _ = _
          rw [World.cell?_alloc_at _ _ _ _ rfl]; rfl
        have hX5l : Xs < w5.heap.size := by omega
        have HX6 : Hid (∀ j v, (#[.int .u32 0, .int .i64 op, .string ⟨#[]⟩, .string ⟨#[]⟩, .string ⟨#[]⟩, .int .i64 0, .int .i64 0, .int .i64 0, .int .i64 0] : Array Value)[j]? = some v → w6.cell? ⟨Xs, j, none⟩ = some v) := fun j v hj => (HB6.out.cell hX5l).trans (HX5.out j v hj)
        have f6 : w6.frozen? ⟨Xs, 4, none⟩ = false := (HB6.out.frozen hX5l).trans (HF5.out 4)
        have x0 : w6.cell? ⟨Xs, 0, none⟩ = some (.int .u32 0) := HX6.out 0 _ rfl
        have x1 : w6.cell? ⟨Xs, 1, none⟩ = some (.int .i64 op) := HX6.out 1 _ rfl
        have x2 : w6.cell? ⟨Xs, 2, none⟩ = some (.string ⟨#[]⟩) := HX6.out 2 _ rfl
        have x3 : w6.cell? ⟨Xs, 3, none⟩ = some (.string ⟨#[]⟩) := HX6.out 3 _ rfl
        have x4 : w6.cell? ⟨Xs, 4, none⟩ = some (.string ⟨#[]⟩) := HX6.out 4 _ rfl
        have x5 : w6.cell? ⟨Xs, 5, none⟩ = some (.int .i64 0) := HX6.out 5 _ rfl
        have x6 : w6.cell? ⟨Xs, 6, none⟩ = some (.int .i64 0) := HX6.out 6 _ rfl
        have x7 : w6.cell? ⟨Xs, 7, none⟩ = some (.int .i64 0) := HX6.out 7 _ rfl
        have x8 : w6.cell? ⟨Xs, 8, none⟩ = some (.int .i64 0) := HX6.out 8 _ rfl
        have HBa : Hid (Below wr.heap.size wr w6) := below_on HB5.out HB6.out
        have HBb : Hid (∀ v, Below wr.heap.size wr (w6.setCell ⟨Xs, 4, none⟩ v)) := fun v => HBa.out.setCell (Nat.le_of_eq HXs.out) _
        clear hw6 hw5 hXs HX5 HF5 HX6 HB6 HB5
        rw [Nat.zero_add, hs5] at HP6
        go_wp2_with fail
        refine (HC.out _ (HBW.out.trans ((HBb.out _).mono HWX.out))).mono ?_
        rintro e w8 ⟨rfl, hb8⟩
        have HB8 : Hid (Below wr.heap.size wr w8) := below_on (HBb.out _) hb8
        clear hb8 HBb HBa HC HXs HP6 f6 cop cl HBW x0 x1 x2 x3 x4 x5 x6 x7 x8
        cases b with
        | false =>
          rw [if_neg (by simp), List.append_nil] at HNX
          have HV8 := mkW (ownV_later HV.out HB8.out)
          have HBE : Hid (Below w1.heap.size w1 w8) := HB.out.trans (HB8.out.mono HB.out.size)
          rw [← HNX.out] at HV8
          clear HNX HV HB HB8
          go_wp2
          go_roundw
          case rel => exact ⟨3, r, by omega, by go_num, HV8, HR, HBE⟩
          case measure => (first | (simp [intOf]; omega) | omega | (show _ < _; simp only [intOf]; omega))
        | true =>
          rw [if_pos rfl] at HNX
          go_wp2_with (at_builtin; refine wpList_append_sps (w8.alloc (.cells #[.pointer (some ⟨g, o + 4, none⟩)] 118)) rfl _ _ rfl _ _ L0 [.pointer (some ⟨g, o + 4, none⟩)] r rfl rfl ?hO ?hS ?hL ?hR ?_)
          case hO => exact ownV_later (ownV_later HV.out HB8.out) ((Below.refl _ _).alloc (Nat.le_refl _) _)
          case hS => exact src_sps w8 _ rfl
          case hL => have := HLN.out; simp; omega
          case hR => exact .inr (by simp)
          intro v' w9 g9 ho9 hg9 hr9
          have HBA : Hid (Below w1.heap.size w1 w9) := by
            have h1 : Below w1.heap.size w1 (w8.alloc (.cells #[.pointer (some ⟨g, o + 4, none⟩)] 118)) := (HB.out.trans (HB8.out.mono HB.out.size)).alloc (Nat.le_trans HB.out.size HB8.out.size) _
            exact h1.grown hg9 h1.size HR.out
          have HR9 : Hid (∀ x, some g9 = some x → w1.heap.size ≤ x) := fun x e => by
            cases e
            rcases hr9 with e | e
            · exact HR.out _ e.symm
            · rw [e]; exact Nat.le_trans HB.out.size (Nat.le_succ_of_le HB8.out.size)
          have HV9 := mkW ho9
          have HNX' : Hid (ptrs g (o + 2) ((List.range 3).filter fun i => okQ (smT op i)) = L0 ++ [.pointer (some ⟨g, o + 4, none⟩)]) := HNX.out
          rw [← HNX'.out] at HV9
          clear ho9 hg9 hr9 HV HB HB8 HNX HNX'
          go_wp2
          go_roundw
          case rel => exact ⟨3, some g9, by omega, by go_num, HV9, HR9, HBA⟩
          case measure => (first | (simp [intOf]; omega) | omega | (show _ < _; simp only [intOf]; omega))
    · have hki : ¬ (k : Int) < 3 := by omega
      have hk3 : k = 3 := by omega
      subst hk3
      have HBE : Hid (Below w.heap.size w wr) := HB1.out.trans (HB.out.mono HB1.out.size)
      have HRE : Hid (∀ x, r = some x → w.heap.size ≤ x) := fun x e => Nat.le_trans HB1.out.size (HR.out x e)
      go_wp2
      go_ret
      exact ⟨_, rfl, r, HV.out, HRE.out, HBE.out⟩
set_option maxHeartbeats 16000000 in
set_option maxRecDepth 100000 in
theorem usedNOf (g o : Nat) (op : Int) (w : World) (ho : OpsAt w) (hc : w.cell? ⟨g, o + 1, none⟩ = some (.int .i64 op)) :
    Calls Tryz.prog 98 #[.pointer (some ⟨g, o, none⟩), fnV 99, .int .i64 1] w fun e w' => ∃ v r, e = .returned v ∧ OwnV w' v (ptrs g (o + 5) (usN op)) r ∧ (∀ x, r = some x → w.heap.size ≤ x) ∧ Below w.heap.size w w' := by
  have hgl := cell_lt hc
  simp only at hgl
  have HO : Hid (∀ u, Below w.heap.size w u → OpsAt u) := fun u hu => ho.later hu
  have HOP : Hid (∀ u, Below w.heap.size w u → u.cell? ⟨g, o + 1, none⟩ = some (.int .i64 op)) := fun u hu => (hu.cell hgl).trans hc
  go_enter Tryz.func98, Tryz.ntmps98
  go_wp2_with (go_at_call 99; refine (qnumbersOfOf g o _).mono ?_; rintro e w1 ⟨rfl, hw1'⟩; have HW1 := mkW hw1'; clear hw1')
  have hw1 := HW1.out
  have HB1 : Hid (Below w.heap.size w w1) := by unfold Hid; rw [hw1]; exact ((Below.refl _ w).alloc (Nat.le_refl _) _).drew
  have HL1 : Hid (∀ i, i < 4 → w1.cell? ⟨w.heap.size, i, none⟩ = some (.pointer (some ⟨g, o + 5 + i, none⟩))) := fun i hi => by
    rw [hw1]
    show (w.alloc _).cell? _ = _
    rw [World.cell?_alloc_at _ _ _ _ rfl]
    rcases i with _ | _ | _ | _ | i
    all_goals first | rfl | omega
  have hsz1 : w1.heap.size = w.heap.size + 1 := by rw [hw1]; simp [World.drew]
  clear hw1 HW1 hc
  go_wp2_with fail
  go_loopw [7, 15] (fun v i wl => ∃ (k : Nat) (r : Option Nat), k ≤ 4 ∧ i = .int .i64 k ∧ Hid (OwnV wl v (ptrs g (o + 5) ((List.range k).filter fun i => okQ (smN op i))) r) ∧ Hid (∀ x, r = some x → w1.heap.size ≤ x) ∧ Hid (Below w1.heap.size w1 wl)) (fun _ i _ => 10 - (intOf i).toNat)
  case atStart => exact ⟨0, none, by omega, rfl, OwnV.nil _, mkW (fun x e => by cases e), Below.refl _ _⟩
  case round =>
    obtain ⟨k, r, hk, rfl, HV, HR, HB⟩ := hrel
    by_cases hp : k < 4
    · have hki : (k : Int) < 4 := by omega
      have HBW : Hid (Below w.heap.size w wr) := HB1.out.trans (HB.out.mono HB1.out.size)
      have cl : wr.cell? ⟨w.heap.size, k, none⟩ = some (.pointer (some ⟨g, o + 5 + k, none⟩)) := (HB.out.cell (by show w.heap.size < w1.heap.size; omega)).trans (HL1.out k hp)
      have cop := HOP.out wr HBW.out
      have HNX : Hid (ptrs g (o + 5) ((List.range (k + 1)).filter fun i => okQ (smN op i)) = ptrs g (o + 5) ((List.range k).filter fun i => okQ (smN op i)) ++ (if okQ (smN op k) = true then [.pointer (some ⟨g, o + 5 + k, none⟩)] else [])) := by
        unfold Hid ptrs
        rw [List.range_succ, List.filter_append, List.map_append]
        congr 1
        cases hq : okQ (smN op k) <;> simp [hq]
      have hlen : (ptrs g (o + 5) ((List.range k).filter fun i => okQ (smN op i))).length ≤ 100 := by
        unfold ptrs
        rw [List.length_map]
        have := List.length_filter_le (fun i => okQ (smN op i)) (List.range k)
        rw [List.length_range] at this
        omega
      obtain ⟨L0, hL0⟩ : ∃ L, ptrs g (o + 5) ((List.range k).filter fun i => okQ (smN op i)) = L := ⟨_, rfl⟩
      rw [hL0] at HNX HV hlen
      have HLN := mkW hlen
      have hXs : w1.heap.size ≤ wr.heap.size := HB.out.size
      have HWX : Hid (w.heap.size ≤ wr.heap.size) := HBW.out.size
      have hgx : g < wr.heap.size := Nat.lt_of_lt_of_le hgl HBW.out.size
      clear hL0 hlen hXs
      have hk3 : k = 0 ∨ k = 1 ∨ k = 2 ∨ k = 3 := by omega
      rcases hk3 with rfl | rfl | rfl | rfl
      · have HC : Hid (∀ u, Below w.heap.size w u → Calls Tryz.prog 43 #[.agg #[.int .u32 0, .int .i64 op, .string ⟨#[]⟩, .string ⟨#[]⟩, .string ⟨#[]⟩, .int .i64 1, .int .i64 0, .int .i64 0, .int .i64 0]] u fun e w' => e = .returned (.int .i64 (if okQ (smN op 0) = true then 0 else 161)) ∧ Below u.heap.size u w') := fun u hu => wcheckOf (smN op 0) u (HO.out u hu) (by simp [smN]) (by simp [smN]) (by simp [smN])
        go_wp2_with fail
        obtain ⟨w5, hw5⟩ : ∃ w5, wr.alloc (.cells #[.int .u32 0, .int .i64 op, .string ⟨#[]⟩, .string ⟨#[]⟩, .string ⟨#[]⟩, .int .i64 0, .int .i64 0, .int .i64 0, .int .i64 0] 24) = w5 := ⟨_, rfl⟩
        have HB5 : Hid (Below wr.heap.size wr w5) := by rw [← hw5]; exact (Below.refl _ _).alloc (Nat.le_refl _) _
        have hs5 : w5.heap.size = wr.heap.size + 1 := by rw [← hw5]; simp
        have HX5 : Hid (∀ j v, (#[.int .u32 0, .int .i64 op, .string ⟨#[]⟩, .string ⟨#[]⟩, .string ⟨#[]⟩, .int .i64 0, .int .i64 0, .int .i64 0, .int .i64 0] : Array Value)[j]? = some v → w5.cell? ⟨wr.heap.size, j, none⟩ = some v) := fun j v hj => by rw [← hw5, World.cell?_alloc_at _ _ _ _ rfl]; exact hj
        have HF5 : Hid (∀ j, w5.frozen? ⟨wr.heap.size, j, none⟩ = false) := fun j => by rw [← hw5]; exact World.frozen?_alloc_at _ _ _ _ rfl
        obtain ⟨b, hbq⟩ : ∃ b, okQ (smN op 0) = b := ⟨_, rfl⟩
        rw [hbq] at HC HNX
        clear hbq
        obtain ⟨Xs, hXs⟩ : ∃ X, wr.heap.size = X := ⟨_, rfl⟩
        have HXs := mkW hXs
        rw [hXs] at HX5 HF5 hs5
        rw [hw5]
        try rw [hXs]
        refine (qnumbersOfOf Xs 0 _).mono ?_
        rintro e w6 ⟨rfl, hw6⟩
        have HB6 : Hid (Below w5.heap.size w5 w6) := by unfold Hid; rw [hw6]; exact ((Below.refl _ w5).alloc (Nat.le_refl _) _).drew
        have HP6 : w6.cell? ⟨w5.heap.size, 0, none⟩ = some (.pointer (some ⟨Xs, 0 + 5, none⟩)) := by
          rw [hw6]
          show (w5.alloc _).cell? _ = _
          rw [World.cell?_alloc_at _ _ _ _ rfl]; rfl
        have hX5l : Xs < w5.heap.size := by omega
        have HX6 : Hid (∀ j v, (#[.int .u32 0, .int .i64 op, .string ⟨#[]⟩, .string ⟨#[]⟩, .string ⟨#[]⟩, .int .i64 0, .int .i64 0, .int .i64 0, .int .i64 0] : Array Value)[j]? = some v → w6.cell? ⟨Xs, j, none⟩ = some v) := fun j v hj => (HB6.out.cell hX5l).trans (HX5.out j v hj)
        have f6 : w6.frozen? ⟨Xs, 5, none⟩ = false := (HB6.out.frozen hX5l).trans (HF5.out 5)
        have x0 : w6.cell? ⟨Xs, 0, none⟩ = some (.int .u32 0) := HX6.out 0 _ rfl
        have x1 : w6.cell? ⟨Xs, 1, none⟩ = some (.int .i64 op) := HX6.out 1 _ rfl
        have x2 : w6.cell? ⟨Xs, 2, none⟩ = some (.string ⟨#[]⟩) := HX6.out 2 _ rfl
        have x3 : w6.cell? ⟨Xs, 3, none⟩ = some (.string ⟨#[]⟩) := HX6.out 3 _ rfl
        have x4 : w6.cell? ⟨Xs, 4, none⟩ = some (.string ⟨#[]⟩) := HX6.out 4 _ rfl
        have x5 : w6.cell? ⟨Xs, 5, none⟩ = some (.int .i64 0) := HX6.out 5 _ rfl
        have x6 : w6.cell? ⟨Xs, 6, none⟩ = some (.int .i64 0) := HX6.out 6 _ rfl
        have x7 : w6.cell? ⟨Xs, 7, none⟩ = some (.int .i64 0) := HX6.out 7 _ rfl
        have x8 : w6.cell? ⟨Xs, 8, none⟩ = some (.int .i64 0) := HX6.out 8 _ rfl
        have HBa : Hid (Below wr.heap.size wr w6) := below_on HB5.out HB6.out
        have HBb : Hid (∀ v, Below wr.heap.size wr (w6.setCell ⟨Xs, 5, none⟩ v)) := fun v => HBa.out.setCell (Nat.le_of_eq HXs.out) _
        clear hw6 hw5 hXs HX5 HF5 HX6 HB6 HB5
        rw [Nat.zero_add, hs5] at HP6
        go_wp2_with fail
        refine (HC.out _ (HBW.out.trans ((HBb.out _).mono HWX.out))).mono ?_
        rintro e w8 ⟨rfl, hb8⟩
        have HB8 : Hid (Below wr.heap.size wr w8) := below_on (HBb.out _) hb8
        clear hb8 HBb HBa HC HXs HP6 f6 cop cl HBW x0 x1 x2 x3 x4 x5 x6 x7 x8
        cases b with
        | false =>
          rw [if_neg (by simp), List.append_nil] at HNX
          have HV8 := mkW (ownV_later HV.out HB8.out)
          have HBE : Hid (Below w1.heap.size w1 w8) := HB.out.trans (HB8.out.mono HB.out.size)
          rw [← HNX.out] at HV8
          clear HNX HV HB HB8
          go_wp2
          go_roundw
          case rel => exact ⟨1, r, by omega, by go_num, HV8, HR, HBE⟩
          case measure => (first | (simp [intOf]; omega) | omega | (show _ < _; simp only [intOf]; omega))
        | true =>
          rw [if_pos rfl] at HNX
          go_wp2_with (at_builtin; refine wpList_append_ips (w8.alloc (.cells #[.pointer (some ⟨g, o + 5, none⟩)] 122)) rfl _ _ rfl _ _ L0 [.pointer (some ⟨g, o + 5, none⟩)] r rfl rfl ?hO ?hS ?hL ?hR ?_)
          case hO => exact ownV_later (ownV_later HV.out HB8.out) ((Below.refl _ _).alloc (Nat.le_refl _) _)
          case hS => exact src_ips w8 _ rfl
          case hL => have := HLN.out; simp; omega
          case hR => exact .inr (by simp)
          intro v' w9 g9 ho9 hg9 hr9
          have HBA : Hid (Below w1.heap.size w1 w9) := by
            have h1 : Below w1.heap.size w1 (w8.alloc (.cells #[.pointer (some ⟨g, o + 5, none⟩)] 122)) := (HB.out.trans (HB8.out.mono HB.out.size)).alloc (Nat.le_trans HB.out.size HB8.out.size) _
            exact h1.grown hg9 h1.size HR.out
          have HR9 : Hid (∀ x, some g9 = some x → w1.heap.size ≤ x) := fun x e => by
            cases e
            rcases hr9 with e | e
            · exact HR.out _ e.symm
            · rw [e]; exact Nat.le_trans HB.out.size (Nat.le_succ_of_le HB8.out.size)
          have HV9 := mkW ho9
          have HNX' : Hid (ptrs g (o + 5) ((List.range 1).filter fun i => okQ (smN op i)) = L0 ++ [.pointer (some ⟨g, o + 5, none⟩)]) := HNX.out
          rw [← HNX'.out] at HV9
          clear ho9 hg9 hr9 HV HB HB8 HNX HNX'
          go_wp2
          go_roundw
          case rel => exact ⟨1, some g9, by omega, by go_num, HV9, HR9, HBA⟩
          case measure => (first | (simp [intOf]; omega) | omega | (show _ < _; simp only [intOf]; omega))
      · have HC : Hid (∀ u, Below w.heap.size w u → Calls Tryz.prog 43 #[.agg #[.int .u32 0, .int .i64 op, .string ⟨#[]⟩, .string ⟨#[]⟩, .string ⟨#[]⟩, .int .i64 0, .int .i64 1, .int .i64 0, .int .i64 0]] u fun e w' => e = .returned (.int .i64 (if okQ (smN op 1) = true then 0 else 161)) ∧ Below u.heap.size u w') := fun u hu => wcheckOf (smN op 1) u (HO.out u hu) (by simp [smN]) (by simp [smN]) (by simp [smN])
        go_wp2_with fail
        obtain ⟨w5, hw5⟩ : ∃ w5, wr.alloc (.cells #[.int .u32 0, .int .i64 op, .string ⟨#[]⟩, .string ⟨#[]⟩, .string ⟨#[]⟩, .int .i64 0, .int .i64 0, .int .i64 0, .int .i64 0] 24) = w5 := ⟨_, rfl⟩
        have HB5 : Hid (Below wr.heap.size wr w5) := by rw [← hw5]; exact (Below.refl _ _).alloc (Nat.le_refl _) _
        have hs5 : w5.heap.size = wr.heap.size + 1 := by rw [← hw5]; simp
        have HX5 : Hid (∀ j v, (#[.int .u32 0, .int .i64 op, .string ⟨#[]⟩, .string ⟨#[]⟩, .string ⟨#[]⟩, .int .i64 0, .int .i64 0, .int .i64 0, .int .i64 0] : Array Value)[j]? = some v → w5.cell? ⟨wr.heap.size, j, none⟩ = some v) := fun j v hj => by rw [← hw5, World.cell?_alloc_at _ _ _ _ rfl]; exact hj
        have HF5 : Hid (∀ j, w5.frozen? ⟨wr.heap.size, j, none⟩ = false) := fun j => by rw [← hw5]; exact World.frozen?_alloc_at _ _ _ _ rfl
        obtain ⟨b, hbq⟩ : ∃ b, okQ (smN op 1) = b := ⟨_, rfl⟩
        rw [hbq] at HC HNX
        clear hbq
        obtain ⟨Xs, hXs⟩ : ∃ X, wr.heap.size = X := ⟨_, rfl⟩
        have HXs := mkW hXs
        rw [hXs] at HX5 HF5 hs5
        rw [hw5]
        try rw [hXs]
        refine (qnumbersOfOf Xs 0 _).mono ?_
        rintro e w6 ⟨rfl, hw6⟩
        have HB6 : Hid (Below w5.heap.size w5 w6) := by unfold Hid; rw [hw6]; exact ((Below.refl _ w5).alloc (Nat.le_refl _) _).drew
        have HP6 : w6.cell? ⟨w5.heap.size, 1, none⟩ = some (.pointer (some ⟨Xs, 0 + 6, none⟩)) := by
          rw [hw6]
          show (w5.alloc _).cell? _ = _
          rw [World.cell?_alloc_at _ _ _ _ rfl]; rfl
        have hX5l : Xs < w5.heap.size := by omega
        have HX6 : Hid (∀ j v, (#[.int .u32 0, .int .i64 op, .string ⟨#[]⟩, .string ⟨#[]⟩, .string ⟨#[]⟩, .int .i64 0, .int .i64 0, .int .i64 0, .int .i64 0] : Array Value)[j]? = some v → w6.cell? ⟨Xs, j, none⟩ = some v) := fun j v hj => (HB6.out.cell hX5l).trans (HX5.out j v hj)
        have f6 : w6.frozen? ⟨Xs, 6, none⟩ = false := (HB6.out.frozen hX5l).trans (HF5.out 6)
        have x0 : w6.cell? ⟨Xs, 0, none⟩ = some (.int .u32 0) := HX6.out 0 _ rfl
        have x1 : w6.cell? ⟨Xs, 1, none⟩ = some (.int .i64 op) := HX6.out 1 _ rfl
        have x2 : w6.cell? ⟨Xs, 2, none⟩ = some (.string ⟨#[]⟩) := HX6.out 2 _ rfl
        have x3 : w6.cell? ⟨Xs, 3, none⟩ = some (.string ⟨#[]⟩) := HX6.out 3 _ rfl
        have x4 : w6.cell? ⟨Xs, 4, none⟩ = some (.string ⟨#[]⟩) := HX6.out 4 _ rfl
        have x5 : w6.cell? ⟨Xs, 5, none⟩ = some (.int .i64 0) := HX6.out 5 _ rfl
        have x6 : w6.cell? ⟨Xs, 6, none⟩ = some (.int .i64 0) := HX6.out 6 _ rfl
        have x7 : w6.cell? ⟨Xs, 7, none⟩ = some (.int .i64 0) := HX6.out 7 _ rfl
        have x8 : w6.cell? ⟨Xs, 8, none⟩ = some (.int .i64 0) := HX6.out 8 _ rfl
        have HBa : Hid (Below wr.heap.size wr w6) := below_on HB5.out HB6.out
        have HBb : Hid (∀ v, Below wr.heap.size wr (w6.setCell ⟨Xs, 6, none⟩ v)) := fun v => HBa.out.setCell (Nat.le_of_eq HXs.out) _
        clear hw6 hw5 hXs HX5 HF5 HX6 HB6 HB5
        rw [Nat.zero_add, hs5] at HP6
        go_wp2_with fail
        refine (HC.out _ (HBW.out.trans ((HBb.out _).mono HWX.out))).mono ?_
        rintro e w8 ⟨rfl, hb8⟩
        have HB8 : Hid (Below wr.heap.size wr w8) := below_on (HBb.out _) hb8
        clear hb8 HBb HBa HC HXs HP6 f6 cop cl HBW x0 x1 x2 x3 x4 x5 x6 x7 x8
        cases b with
        | false =>
          rw [if_neg (by simp), List.append_nil] at HNX
          have HV8 := mkW (ownV_later HV.out HB8.out)
          have HBE : Hid (Below w1.heap.size w1 w8) := HB.out.trans (HB8.out.mono HB.out.size)
          rw [← HNX.out] at HV8
          clear HNX HV HB HB8
          go_wp2
          go_roundw
          case rel => exact ⟨2, r, by omega, by go_num, HV8, HR, HBE⟩
          case measure => (first | (simp [intOf]; omega) | omega | (show _ < _; simp only [intOf]; omega))
        | true =>
          rw [if_pos rfl] at HNX
          go_wp2_with (at_builtin; refine wpList_append_ips (w8.alloc (.cells #[.pointer (some ⟨g, o + 6, none⟩)] 122)) rfl _ _ rfl _ _ L0 [.pointer (some ⟨g, o + 6, none⟩)] r rfl rfl ?hO ?hS ?hL ?hR ?_)
          case hO => exact ownV_later (ownV_later HV.out HB8.out) ((Below.refl _ _).alloc (Nat.le_refl _) _)
          case hS => exact src_ips w8 _ rfl
          case hL => have := HLN.out; simp; omega
          case hR => exact .inr (by simp)
          intro v' w9 g9 ho9 hg9 hr9
          have HBA : Hid (Below w1.heap.size w1 w9) := by
            have h1 : Below w1.heap.size w1 (w8.alloc (.cells #[.pointer (some ⟨g, o + 6, none⟩)] 122)) := (HB.out.trans (HB8.out.mono HB.out.size)).alloc (Nat.le_trans HB.out.size HB8.out.size) _
            exact h1.grown hg9 h1.size HR.out
          have HR9 : Hid (∀ x, some g9 = some x → w1.heap.size ≤ x) := fun x e => by
            cases e
            rcases hr9 with e | e
            · exact HR.out _ e.symm
            · rw [e]; exact Nat.le_trans HB.out.size (Nat.le_succ_of_le HB8.out.size)
          have HV9 := mkW ho9
          have HNX' : Hid (ptrs g (o + 5) ((List.range 2).filter fun i => okQ (smN op i)) = L0 ++ [.pointer (some ⟨g, o + 6, none⟩)]) := HNX.out
          rw [← HNX'.out] at HV9
          clear ho9 hg9 hr9 HV HB HB8 HNX HNX'
          go_wp2
          go_roundw
          case rel => exact ⟨2, some g9, by omega, by go_num, HV9, HR9, HBA⟩
          case measure => (first | (simp [intOf]; omega) | omega | (show _ < _; simp only [intOf]; omega))
      · have HC : Hid (∀ u, Below w.heap.size w u → Calls Tryz.prog 43 #[.agg #[.int .u32 0, .int .i64 op, .string ⟨#[]⟩, .string ⟨#[]⟩, .string ⟨#[]⟩, .int .i64 0, .int .i64 0, .int .i64 1, .int .i64 0]] u fun e w' => e = .returned (.int .i64 (if okQ (smN op 2) = true then 0 else 161)) ∧ Below u.heap.size u w') := fun u hu => wcheckOf (smN op 2) u (HO.out u hu) (by simp [smN]) (by simp [smN]) (by simp [smN])
        go_wp2_with fail
        obtain ⟨w5, hw5⟩ : ∃ w5, wr.alloc (.cells #[.int .u32 0, .int .i64 op, .string ⟨#[]⟩, .string ⟨#[]⟩, .string ⟨#[]⟩, .int .i64 0, .int .i64 0, .int .i64 0, .int .i64 0] 24) = w5 := ⟨_, rfl⟩
        have HB5 : Hid (Below wr.heap.size wr w5) := by rw [← hw5]; exact (Below.refl _ _).alloc (Nat.le_refl _) _
        have hs5 : w5.heap.size = wr.heap.size + 1 := by rw [← hw5]; simp
        have HX5 : Hid (∀ j v, (#[.int .u32 0, .int .i64 op, .string ⟨#[]⟩, .string ⟨#[]⟩, .string ⟨#[]⟩, .int .i64 0, .int .i64 0, .int .i64 0, .int .i64 0] : Array Value)[j]? = some v → w5.cell? ⟨wr.heap.size, j, none⟩ = some v) := fun j v hj => by rw [← hw5, World.cell?_alloc_at _ _ _ _ rfl]; exact hj
        have HF5 : Hid (∀ j, w5.frozen? ⟨wr.heap.size, j, none⟩ = false) := fun j => by rw [← hw5]; exact World.frozen?_alloc_at _ _ _ _ rfl
        obtain ⟨b, hbq⟩ : ∃ b, okQ (smN op 2) = b := ⟨_, rfl⟩
        rw [hbq] at HC HNX
        clear hbq
        obtain ⟨Xs, hXs⟩ : ∃ X, wr.heap.size = X := ⟨_, rfl⟩
        have HXs := mkW hXs
        rw [hXs] at HX5 HF5 hs5
        rw [hw5]
        try rw [hXs]
        refine (qnumbersOfOf Xs 0 _).mono ?_
        rintro e w6 ⟨rfl, hw6⟩
        have HB6 : Hid (Below w5.heap.size w5 w6) := by unfold Hid; rw [hw6]; exact ((Below.refl _ w5).alloc (Nat.le_refl _) _).drew
        have HP6 : w6.cell? ⟨w5.heap.size, 2, none⟩ = some (.pointer (some ⟨Xs, 0 + 7, none⟩)) := by
          rw [hw6]
          show (w5.alloc _).cell? _ = _
          rw [World.cell?_alloc_at _ _ _ _ rfl]; rfl
        have hX5l : Xs < w5.heap.size := by omega
        have HX6 : Hid (∀ j v, (#[.int .u32 0, .int .i64 op, .string ⟨#[]⟩, .string ⟨#[]⟩, .string ⟨#[]⟩, .int .i64 0, .int .i64 0, .int .i64 0, .int .i64 0] : Array Value)[j]? = some v → w6.cell? ⟨Xs, j, none⟩ = some v) := fun j v hj => (HB6.out.cell hX5l).trans (HX5.out j v hj)
        have f6 : w6.frozen? ⟨Xs, 7, none⟩ = false := (HB6.out.frozen hX5l).trans (HF5.out 7)
        have x0 : w6.cell? ⟨Xs, 0, none⟩ = some (.int .u32 0) := HX6.out 0 _ rfl
        have x1 : w6.cell? ⟨Xs, 1, none⟩ = some (.int .i64 op) := HX6.out 1 _ rfl
        have x2 : w6.cell? ⟨Xs, 2, none⟩ = some (.string ⟨#[]⟩) := HX6.out 2 _ rfl
        have x3 : w6.cell? ⟨Xs, 3, none⟩ = some (.string ⟨#[]⟩) := HX6.out 3 _ rfl
        have x4 : w6.cell? ⟨Xs, 4, none⟩ = some (.string ⟨#[]⟩) := HX6.out 4 _ rfl
        have x5 : w6.cell? ⟨Xs, 5, none⟩ = some (.int .i64 0) := HX6.out 5 _ rfl
        have x6 : w6.cell? ⟨Xs, 6, none⟩ = some (.int .i64 0) := HX6.out 6 _ rfl
        have x7 : w6.cell? ⟨Xs, 7, none⟩ = some (.int .i64 0) := HX6.out 7 _ rfl
        have x8 : w6.cell? ⟨Xs, 8, none⟩ = some (.int .i64 0) := HX6.out 8 _ rfl
        have HBa : Hid (Below wr.heap.size wr w6) := below_on HB5.out HB6.out
        have HBb : Hid (∀ v, Below wr.heap.size wr (w6.setCell ⟨Xs, 7, none⟩ v)) := fun v => HBa.out.setCell (Nat.le_of_eq HXs.out) _
        clear hw6 hw5 hXs HX5 HF5 HX6 HB6 HB5
        rw [Nat.zero_add, hs5] at HP6
        go_wp2_with fail
        refine (HC.out _ (HBW.out.trans ((HBb.out _).mono HWX.out))).mono ?_
        rintro e w8 ⟨rfl, hb8⟩
        have HB8 : Hid (Below wr.heap.size wr w8) := below_on (HBb.out _) hb8
        clear hb8 HBb HBa HC HXs HP6 f6 cop cl HBW x0 x1 x2 x3 x4 x5 x6 x7 x8
        cases b with
        | false =>
          rw [if_neg (by simp), List.append_nil] at HNX
          have HV8 := mkW (ownV_later HV.out HB8.out)
          have HBE : Hid (Below w1.heap.size w1 w8) := HB.out.trans (HB8.out.mono HB.out.size)
          rw [← HNX.out] at HV8
          clear HNX HV HB HB8
          go_wp2
          go_roundw
          case rel => exact ⟨3, r, by omega, by go_num, HV8, HR, HBE⟩
          case measure => (first | (simp [intOf]; omega) | omega | (show _ < _; simp only [intOf]; omega))
        | true =>
          rw [if_pos rfl] at HNX
          go_wp2_with (at_builtin; refine wpList_append_ips (w8.alloc (.cells #[.pointer (some ⟨g, o + 7, none⟩)] 122)) rfl _ _ rfl _ _ L0 [.pointer (some ⟨g, o + 7, none⟩)] r rfl rfl ?hO ?hS ?hL ?hR ?_)
          case hO => exact ownV_later (ownV_later HV.out HB8.out) ((Below.refl _ _).alloc (Nat.le_refl _) _)
          case hS => exact src_ips w8 _ rfl
          case hL => have := HLN.out; simp; omega
          case hR => exact .inr (by simp)
          intro v' w9 g9 ho9 hg9 hr9
          have HBA : Hid (Below w1.heap.size w1 w9) := by
            have h1 : Below w1.heap.size w1 (w8.alloc (.cells #[.pointer (some ⟨g, o + 7, none⟩)] 122)) := (HB.out.trans (HB8.out.mono HB.out.size)).alloc (Nat.le_trans HB.out.size HB8.out.size) _
            exact h1.grown hg9 h1.size HR.out
          have HR9 : Hid (∀ x, some g9 = some x → w1.heap.size ≤ x) := fun x e => by
            cases e
            rcases hr9 with e | e
            · exact HR.out _ e.symm
            · rw [e]; exact Nat.le_trans HB.out.size (Nat.le_succ_of_le HB8.out.size)
          have HV9 := mkW ho9
          have HNX' : Hid (ptrs g (o + 5) ((List.range 3).filter fun i => okQ (smN op i)) = L0 ++ [.pointer (some ⟨g, o + 7, none⟩)]) := HNX.out
          rw [← HNX'.out] at HV9
          clear ho9 hg9 hr9 HV HB HB8 HNX HNX'
          go_wp2
          go_roundw
          case rel => exact ⟨3, some g9, by omega, by go_num, HV9, HR9, HBA⟩
          case measure => (first | (simp [intOf]; omega) | omega | (show _ < _; simp only [intOf]; omega))
      · have HC : Hid (∀ u, Below w.heap.size w u → Calls Tryz.prog 43 #[.agg #[.int .u32 0, .int .i64 op, .string ⟨#[]⟩, .string ⟨#[]⟩, .string ⟨#[]⟩, .int .i64 0, .int .i64 0, .int .i64 0, .int .i64 1]] u fun e w' => e = .returned (.int .i64 (if okQ (smN op 3) = true then 0 else 161)) ∧ Below u.heap.size u w') := fun u hu => wcheckOf (smN op 3) u (HO.out u hu) (by simp [smN]) (by simp [smN]) (by simp [smN])
        go_wp2_with fail
        obtain ⟨w5, hw5⟩ : ∃ w5, wr.alloc (.cells #[.int .u32 0, .int .i64 op, .string ⟨#[]⟩, .string ⟨#[]⟩, .string ⟨#[]⟩, .int .i64 0, .int .i64 0, .int .i64 0, .int .i64 0] 24) = w5 := ⟨_, rfl⟩
        have HB5 : Hid (Below wr.heap.size wr w5) := by rw [← hw5]; exact (Below.refl _ _).alloc (Nat.le_refl _) _
        have hs5 : w5.heap.size = wr.heap.size + 1 := by rw [← hw5]; simp
        have HX5 : Hid (∀ j v, (#[.int .u32 0, .int .i64 op, .string ⟨#[]⟩, .string ⟨#[]⟩, .string ⟨#[]⟩, .int .i64 0, .int .i64 0, .int .i64 0, .int .i64 0] : Array Value)[j]? = some v → w5.cell? ⟨wr.heap.size, j, none⟩ = some v) := fun j v hj => by rw [← hw5, World.cell?_alloc_at _ _ _ _ rfl]; exact hj
        have HF5 : Hid (∀ j, w5.frozen? ⟨wr.heap.size, j, none⟩ = false) := fun j => by rw [← hw5]; exact World.frozen?_alloc_at _ _ _ _ rfl
        obtain ⟨b, hbq⟩ : ∃ b, okQ (smN op 3) = b := ⟨_, rfl⟩
        rw [hbq] at HC HNX
        clear hbq
        obtain ⟨Xs, hXs⟩ : ∃ X, wr.heap.size = X := ⟨_, rfl⟩
        have HXs := mkW hXs
        rw [hXs] at HX5 HF5 hs5
        rw [hw5]
        try rw [hXs]
        refine (qnumbersOfOf Xs 0 _).mono ?_
        rintro e w6 ⟨rfl, hw6⟩
        have HB6 : Hid (Below w5.heap.size w5 w6) := by unfold Hid; rw [hw6]; exact ((Below.refl _ w5).alloc (Nat.le_refl _) _).drew
        have HP6 : w6.cell? ⟨w5.heap.size, 3, none⟩ = some (.pointer (some ⟨Xs, 0 + 8, none⟩)) := by
          rw [hw6]
          show (w5.alloc _).cell? _ = _
          rw [World.cell?_alloc_at _ _ _ _ rfl]; rfl
        have hX5l : Xs < w5.heap.size := by omega
        have HX6 : Hid (∀ j v, (#[.int .u32 0, .int .i64 op, .string ⟨#[]⟩, .string ⟨#[]⟩, .string ⟨#[]⟩, .int .i64 0, .int .i64 0, .int .i64 0, .int .i64 0] : Array Value)[j]? = some v → w6.cell? ⟨Xs, j, none⟩ = some v) := fun j v hj => (HB6.out.cell hX5l).trans (HX5.out j v hj)
        have f6 : w6.frozen? ⟨Xs, 8, none⟩ = false := (HB6.out.frozen hX5l).trans (HF5.out 8)
        have x0 : w6.cell? ⟨Xs, 0, none⟩ = some (.int .u32 0) := HX6.out 0 _ rfl
        have x1 : w6.cell? ⟨Xs, 1, none⟩ = some (.int .i64 op) := HX6.out 1 _ rfl
        have x2 : w6.cell? ⟨Xs, 2, none⟩ = some (.string ⟨#[]⟩) := HX6.out 2 _ rfl
        have x3 : w6.cell? ⟨Xs, 3, none⟩ = some (.string ⟨#[]⟩) := HX6.out 3 _ rfl
        have x4 : w6.cell? ⟨Xs, 4, none⟩ = some (.string ⟨#[]⟩) := HX6.out 4 _ rfl
        have x5 : w6.cell? ⟨Xs, 5, none⟩ = some (.int .i64 0) := HX6.out 5 _ rfl
        have x6 : w6.cell? ⟨Xs, 6, none⟩ = some (.int .i64 0) := HX6.out 6 _ rfl
        have x7 : w6.cell? ⟨Xs, 7, none⟩ = some (.int .i64 0) := HX6.out 7 _ rfl
        have x8 : w6.cell? ⟨Xs, 8, none⟩ = some (.int .i64 0) := HX6.out 8 _ rfl
        have HBa : Hid (Below wr.heap.size wr w6) := below_on HB5.out HB6.out
        have HBb : Hid (∀ v, Below wr.heap.size wr (w6.setCell ⟨Xs, 8, none⟩ v)) := fun v => HBa.out.setCell (Nat.le_of_eq HXs.out) _
        clear hw6 hw5 hXs HX5 HF5 HX6 HB6 HB5
        rw [Nat.zero_add, hs5] at HP6
        go_wp2_with fail
        refine (HC.out _ (HBW.out.trans ((HBb.out _).mono HWX.out))).mono ?_
        rintro e w8 ⟨rfl, hb8⟩
        have HB8 : Hid (Below wr.heap.size wr w8) := below_on (HBb.out _) hb8
        clear hb8 HBb HBa HC HXs HP6 f6 cop cl HBW x0 x1 x2 x3 x4 x5 x6 x7 x8
        cases b with
        | false =>
          rw [if_neg (by simp), List.append_nil] at HNX
          have HV8 := mkW (ownV_later HV.out HB8.out)
          have HBE : Hid (Below w1.heap.size w1 w8) := HB.out.trans (HB8.out.mono HB.out.size)
          rw [← HNX.out] at HV8
          clear HNX HV HB HB8
          go_wp2
          go_roundw
          case rel => exact ⟨4, r, by omega, by go_num, HV8, HR, HBE⟩
          case measure => (first | (simp [intOf]; omega) | omega | (show _ < _; simp only [intOf]; omega))
        | true =>
          rw [if_pos rfl] at HNX
          go_wp2_with (at_builtin; refine wpList_append_ips (w8.alloc (.cells #[.pointer (some ⟨g, o + 8, none⟩)] 122)) rfl _ _ rfl _ _ L0 [.pointer (some ⟨g, o + 8, none⟩)] r rfl rfl ?hO ?hS ?hL ?hR ?_)
          case hO => exact ownV_later (ownV_later HV.out HB8.out) ((Below.refl _ _).alloc (Nat.le_refl _) _)
          case hS => exact src_ips w8 _ rfl
          case hL => have := HLN.out; simp; omega
          case hR => exact .inr (by simp)
          intro v' w9 g9 ho9 hg9 hr9
          have HBA : Hid (Below w1.heap.size w1 w9) := by
            have h1 : Below w1.heap.size w1 (w8.alloc (.cells #[.pointer (some ⟨g, o + 8, none⟩)] 122)) := (HB.out.trans (HB8.out.mono HB.out.size)).alloc (Nat.le_trans HB.out.size HB8.out.size) _
            exact h1.grown hg9 h1.size HR.out
          have HR9 : Hid (∀ x, some g9 = some x → w1.heap.size ≤ x) := fun x e => by
            cases e
            rcases hr9 with e | e
            · exact HR.out _ e.symm
            · rw [e]; exact Nat.le_trans HB.out.size (Nat.le_succ_of_le HB8.out.size)
          have HV9 := mkW ho9
          have HNX' : Hid (ptrs g (o + 5) ((List.range 4).filter fun i => okQ (smN op i)) = L0 ++ [.pointer (some ⟨g, o + 8, none⟩)]) := HNX.out
          rw [← HNX'.out] at HV9
          clear ho9 hg9 hr9 HV HB HB8 HNX HNX'
          go_wp2
          go_roundw
          case rel => exact ⟨4, some g9, by omega, by go_num, HV9, HR9, HBA⟩
          case measure => (first | (simp [intOf]; omega) | omega | (show _ < _; simp only [intOf]; omega))
    · have hki : ¬ (k : Int) < 4 := by omega
      have hk3 : k = 4 := by omega
      subst hk3
      have HBE : Hid (Below w.heap.size w wr) := HB1.out.trans (HB.out.mono HB1.out.size)
      have HRE : Hid (∀ x, r = some x → w.heap.size ≤ x) := fun x e => Nat.le_trans HB1.out.size (HR.out x e)
      go_wp2
      go_ret
      exact ⟨_, rfl, r, HV.out, HRE.out, HBE.out⟩
end Go.Proofs.YtlnppgjppfkocaaGreatDoor.Xs
