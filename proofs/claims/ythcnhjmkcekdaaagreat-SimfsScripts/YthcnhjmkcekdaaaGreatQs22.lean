import Derived.Test.YthcnhjmkcekdaaaGreatQs21
import Derived.Deep.RegionHeld3
import Derived.Test.YthcnhjmkcekdaaaGreatQs19
import Derived.BigRegion
namespace Go.Proofs.YthcnhjmkcekdaaaGreat
open Go.RowKit Go.Maps Plain
set_option linter.unusedVariables false
set_option linter.unusedSimpArgs false
set_option maxHeartbeats 4000000 in
set_option maxRecDepth 100000 in
theorem withoutOf {w : World} {a : Option Addr} {c : Nat} {l : List (Nm × Nat)} {r : Option Nat} (hrow : OwnNw w (.slice a l.length c) (l.map nwOf) r) (s : ByteArray) (hl : l.length ≤ 2199023255000) :
    Calls Tryz.prog 57 #[.slice a l.length c, .string s] w fun e w' => ∃ a N c r, e = .returned (.slice a N c) ∧ NwNew w w' (.slice a N c) ((leftL l s.data.toList).map nwOf) r := by
  have HR : Hid (OwnNw w (.slice a l.length c) (l.map nwOf) r) := hrow
  have HN0 : Hid (NwNew w w (.slice none 0 0) [] none) := NwNew.nil w
  clear hrow
  go_enter Tryz.func57, Tryz.ntmps57
  go_wp2
  go_loopw [5, 6] (fun m i wr => ∃ k : Nat, k ≤ l.length ∧ i = .int .i64 k ∧ Hid (∃ r, NwNew w wr m ((leftL (l.take k) s.data.toList).map nwOf) r)) (fun _ i _ => l.length - (intOf i).toNat)
  case atStart => exact ⟨0, by omega, rfl, ⟨none, HN0.out⟩⟩
  case round =>
    obtain ⟨k, hk, rfl, HK⟩ := hrel
    obtain ⟨r2, hN⟩ := HK.out
    obtain ⟨a2, cap2, rfl, -, -⟩ : ∃ a2 cap2, u5 = .slice a2 ((leftL (l.take k) s.data.toList).map nwOf).length cap2 ∧ True ∧ True := by
      obtain ⟨a2, cap2, e, -, -⟩ := hN.row.shape
      exact ⟨a2, cap2, e, trivial, trivial⟩
    have htl := left_len (l.take k) s.data.toList
    rw [List.length_take] at htl
    have HNN : Hid (NwNew w wr (.slice a2 ((leftL (l.take k) s.data.toList).map nwOf).length cap2) ((leftL (l.take k) s.data.toList).map nwOf) r2) := hN
    clear HK
    by_cases hlt : k < l.length
    · have hki : (k : Int) < (l.length : Int) := by omega
      have HS : Hid (leftL (l.take (k + 1)) s.data.toList = if (l.getD k ([], 0)).1 = s.data.toList then leftL (l.take k) s.data.toList else leftL (l.take k) s.data.toList ++ [l.getD k ([], 0)]) := left_take hlt
      obtain ⟨g, rfl, rfl, d0, d1⟩ := row_nw (HR.out.later hN.below) hlt
      clear hN
      by_cases he : (l.getD k ([], 0)).1 = s.data.toList
      · have hbe : ((str (l.getD k ([], 0)).1).toList == s.toList) = true := by rw [txt_eq]; simpa using he
        have HF : Hid (∃ r, NwNew w wr (.slice a2 ((leftL (l.take k) s.data.toList).map nwOf).length cap2) ((leftL (l.take (k + 1)) s.data.toList).map nwOf) r) := ⟨r2, by rw [HS.out, if_pos he]; exact HNN.out⟩
        clear he HS HNN
        generalize l.getD k ([], 0) = x at d0 d1 hbe
        generalize ((leftL (l.take k) s.data.toList).map nwOf).length = M at *
        go_wp2
        go_roundw
        case rel => exact ⟨k + 1, by omega, by go_num, HF⟩
        case measure => simp [intOf]; omega
      · have hbe : ((str (l.getD k ([], 0)).1).toList == s.toList) = false := by rw [txt_eq]; simpa using he
        have HS2 : Hid (leftL (l.take (k + 1)) s.data.toList = leftL (l.take k) s.data.toList ++ [l.getD k ([], 0)]) := by unfold Hid; rw [HS.out, if_neg he]
        clear he HS
        generalize l.getD k ([], 0) = x at d0 d1 hbe HS2
        generalize leftL (l.take k) s.data.toList = T at *
        go_wp2_with (at_builtin; refine wpList_append_nw _ rfl _ _ rfl _ _ (T.map nwOf) [nwOf x] r2 rfl rfl ?hOwn ?hSrc ?hLen ?hR ?_)
        case hOwn => exact HNN.out.row.later ((Below.refl _ _).alloc (Nat.le_refl _) _)
        case hSrc => exact src_nw wr (nwOf x)
        case hLen => simp; omega
        case hR => exact .inr (by simp)
        intro v4 w4 g4 ho4 hg4 hr4
        obtain ⟨a4, c4, rfl, -, -⟩ := ho4.shape
        have HF : Hid (∃ r, NwNew w w4 (.slice a4 (T.map nwOf ++ [nwOf x]).length c4) ((leftL (l.take (k + 1)) s.data.toList).map nwOf) r) := ⟨some g4, by
          rw [HS2.out, List.map_append]
          exact (HNN.out.later ((Below.refl _ _).alloc (Nat.le_refl _) _)).app ho4 hg4 (by simpa using hr4)⟩
        clear ho4 hg4 hr4 HNN HS2
        generalize (T.map nwOf ++ [nwOf x]).length = M at *
        go_wp2
        go_roundw
        case rel => exact ⟨k + 1, by omega, by go_num, HF⟩
        case measure => simp [intOf]; omega
    · have hke : k = l.length := by omega
      have HF : Hid (∃ r, NwNew w wr (.slice a2 ((leftL (l.take k) s.data.toList).map nwOf).length cap2) ((leftL l s.data.toList).map nwOf) r) := ⟨r2, by
        have := HNN.out
        rw [hke, List.take_length] at this
        rw [hke, List.take_length]
        exact this⟩
      clear hN HNN hke
      generalize ((leftL (l.take k) s.data.toList).map nwOf).length = M at *
      go_wp2
      go_ret
      obtain ⟨r, hr⟩ := HF.out
      exact ⟨_, _, _, r, rfl, hr⟩
/-- A link in its place. -/
def withL : List (Nm × Nat) → Nm × Nat → List (Nm × Nat)
  | [], x => [x]
  | y :: l, x => if x.1 < y.1 then x :: y :: l else y :: withL l x
theorem withL_len : ∀ (l : List (Nm × Nat)) (x : Nm × Nat), (withL l x).length = l.length + 1
  | [], x => rfl
  | y :: l, x => by
    unfold withL
    split
    · simp
    · simp [withL_len l x]
theorem withL_perm : ∀ (l : List (Nm × Nat)) (x : Nm × Nat), (withL l x).Perm (x :: l)
  | [], x => List.Perm.refl _
  | y :: l, x => by
    unfold withL
    split
    · exact List.Perm.refl _
    · exact ((withL_perm l x).cons y).trans (List.Perm.swap x y l)
theorem drop_getD {α : Type} {l : List α} {k : Nat} (d : α) (h : k < l.length) : l.drop k = l.getD k d :: l.drop (k + 1) := by
  rw [List.drop_eq_getElem_cons h, List.getD_eq_getElem?_getD, List.getElem?_eq_getElem h]; rfl
theorem take_getD {α : Type} {l : List α} {k : Nat} (d : α) (h : k < l.length) : l.take (k + 1) = l.take k ++ [l.getD k d] := by
  rw [List.take_succ_eq_append_getElem h, List.getD_eq_getElem?_getD, List.getElem?_eq_getElem h]; rfl
/-- How far the laying has come. -/
def WithI (l : List (Nm × Nat)) (x : Nm × Nat) (k : Nat) (laid : Bool) (m : List (Nm × Nat)) : Prop := (laid = false → m = l.take k ∧ withL l x = l.take k ++ withL (l.drop k) x) ∧ (laid = true → withL l x = m ++ l.drop k) ∧ m.length ≤ k + 1
theorem WithI.start (l : List (Nm × Nat)) (x : Nm × Nat) : WithI l x 0 false [] := ⟨fun _ => ⟨by simp, by simp⟩, fun h => (by cases h), by simp⟩
theorem WithI.lay {l : List (Nm × Nat)} {x : Nm × Nat} {k : Nat} {m : List (Nm × Nat)} (h : WithI l x k false m) (hk : k < l.length) (hx : x.1 < (l.getD k ([], 0)).1) : WithI l x (k + 1) true (m ++ [x] ++ [l.getD k ([], 0)]) := by
  obtain ⟨h1, h2⟩ := h.1 rfl
  refine ⟨fun e => (by cases e), fun _ => ?_, by subst h1; simp; omega⟩
  rw [h2, drop_getD ([], 0) hk, withL, if_pos hx, h1]
  simp
theorem WithI.pass {l : List (Nm × Nat)} {x : Nm × Nat} {k : Nat} {m : List (Nm × Nat)} (h : WithI l x k false m) (hk : k < l.length) (hx : ¬ x.1 < (l.getD k ([], 0)).1) : WithI l x (k + 1) false (m ++ [l.getD k ([], 0)]) := by
  obtain ⟨h1, h2⟩ := h.1 rfl
  refine ⟨fun _ => ⟨by rw [take_getD ([], 0) hk, h1], ?_⟩, fun e => (by cases e), by subst h1; simp; omega⟩
  rw [h2, drop_getD ([], 0) hk, withL, if_neg hx, take_getD ([], 0) hk]
  simp
theorem WithI.on {l : List (Nm × Nat)} {x : Nm × Nat} {k : Nat} {m : List (Nm × Nat)} (h : WithI l x k true m) (hk : k < l.length) : WithI l x (k + 1) true (m ++ [l.getD k ([], 0)]) := by
  have h1 := h.2.1 rfl
  refine ⟨fun e => (by cases e), fun _ => ?_, by have := h.2.2; simp; omega⟩
  rw [h1, drop_getD ([], 0) hk]
  simp
theorem WithI.ends {l : List (Nm × Nat)} {x : Nm × Nat} {b : Bool} {m : List (Nm × Nat)} (h : WithI l x l.length b m) : (b = true → m = withL l x) ∧ (b = false → m ++ [x] = withL l x) := by
  refine ⟨fun e => ?_, fun e => ?_⟩
  · rw [h.2.1 e]; simp
  · obtain ⟨h1, h2⟩ := h.1 e
    rw [h2, h1]; simp [withL]
theorem less_txt (a b : Nm) : Op.bytesLess (str a).toList (str b).toList = decide (a < b) := by
  rw [bytesLess_eq, ByteArray.toList_eq, ByteArray.toList_eq, str_list, str_list]
theorem same_txt (a b : Nm) : ((str a).toList == (str b).toList) = (a == b) := by
  rw [ByteArray.toList_eq, ByteArray.toList_eq, str_list, str_list]
set_option maxHeartbeats 8000000 in
set_option maxRecDepth 100000 in
theorem withOf {w : World} {a : Option Addr} {c : Nat} {l : List (Nm × Nat)} {r : Option Nat} (hrow : OwnNw w (.slice a l.length c) (l.map nwOf) r) (x : Nm × Nat) (hl : l.length ≤ 2199023255000) :
    Calls Tryz.prog 52 #[.slice a l.length c, .agg #[.string (str x.1), .int .i64 (x.2 : Int)]] w fun e w' => ∃ a N c r, e = .returned (.slice a N c) ∧ NwNew w w' (.slice a N c) ((withL l x).map nwOf) r := by
  obtain ⟨w0, hw0⟩ : ∃ w0, w.alloc (.cells #[.string (str x.1), .int .i64 (x.2 : Int)] 85) = w0 := ⟨_, rfl⟩
  have hb0 : Below w.heap.size w w0 := by rw [← hw0]; exact (Below.refl _ _).alloc (Nat.le_refl _) _
  have HR : Hid (OwnNw w (.slice a l.length c) (l.map nwOf) r) := hrow
  have HB0 := Hid.mkR hb0
  have hX : w0.cell? ⟨w.heap.size, 0, none⟩ = some (.string (str x.1)) ∧ w0.cell? ⟨w.heap.size, 1, none⟩ = some (.int .i64 (x.2 : Int)) := by
    rw [← hw0]; exact ⟨by rw [World.cell?_alloc_at _ _ _ _ rfl]; rfl, by rw [World.cell?_alloc_at _ _ _ _ rfl]; rfl⟩
  have HX := Hid.mkR hX
  have hsz : w.heap.size < w0.heap.size := by rw [← hw0]; simp
  have HN0 : Hid (NwNew w0 w0 (.slice none 0 0) [] none) := NwNew.nil w0
  clear hrow hb0 hX
  go_enter Tryz.func52, Tryz.ntmps52
  go_wp2
  go_loopw [5, 6, 7] (fun m b i wr => ∃ (k : Nat) (y : Bool), k ≤ l.length ∧ i = .int .i64 k ∧ b = .bool y ∧ Hid (∃ ms r, WithI l x k y ms ∧ NwNew w0 wr m (ms.map nwOf) r)) (fun _ _ i _ => l.length - (intOf i).toNat)
  case atStart => exact ⟨0, false, by omega, rfl, rfl, ⟨[], none, WithI.start l x, HN0.out⟩⟩
  case round =>
    obtain ⟨k, y, hk, rfl, rfl, HK⟩ := hrel
    obtain ⟨ms, r2, hI, hN⟩ := HK.out
    obtain ⟨a2, cap2, rfl, -, -⟩ : ∃ a2 cap2, u5 = .slice a2 (ms.map nwOf).length cap2 ∧ True ∧ True := by
      obtain ⟨a2, cap2, e, -, -⟩ := hN.row.shape
      exact ⟨a2, cap2, e, trivial, trivial⟩
    have hml : ms.length ≤ k + 1 := hI.2.2
    have HI := Hid.mkR hI
    generalize (ms.map nwOf).length = M2 at hN ⊢
    have HNN := Hid.mkR hN
    have x0 := (hN.below.cell (p := ⟨w.heap.size, 0, none⟩) hsz).trans HX.out.1
    have x1 := (hN.below.cell (p := ⟨w.heap.size, 1, none⟩) hsz).trans HX.out.2
    clear HK hI
    by_cases hlt : k < l.length
    · have hki : (k : Int) < (l.length : Int) := by omega
      obtain ⟨g, rfl, rfl, d0, d1⟩ := row_nw (HR.out.later (HB0.out.trans (hN.below.mono HB0.out.size))) hlt
      clear hN
      cases y with
      | true =>
        have HI2 := Hid.mkR (HI.out.on hlt)
        clear HI
        generalize l.getD k ([], 0) = z at d0 d1 HI2
        go_wp2_with fail
        go_quiet (fail)
        have HNQ := Hid.mkR (HNN.out.later (below_drewN (Below.refl _ _) nq))
        have y0 : (wr.drewN nq).cell? ⟨w.heap.size, 0, none⟩ = some (.string (str x.1)) := x0
        have y1 : (wr.drewN nq).cell? ⟨w.heap.size, 1, none⟩ = some (.int .i64 (x.2 : Int)) := x1
        have f0 : (wr.drewN nq).cell? ⟨g, k * 2, none⟩ = some (.string (str z.1)) := d0
        have f1 : (wr.drewN nq).cell? ⟨g, k * 2 + 1, none⟩ = some (.int .i64 (z.2 : Int)) := d1
        clear x0 x1 d0 d1 HNN
        generalize wr.drewN nq = wq at *
        go_wp2_with (at_builtin; refine wpList_append_nw _ rfl _ _ rfl _ _ (ms.map nwOf) [nwOf z] r2 rfl rfl ?hOwn ?hSrc ?hLen (.inr (Nat.succ_pos _)) ?_)
        case hOwn => exact HNQ.out.row.later ((Below.refl _ _).alloc (Nat.le_refl _) _)
        case hSrc => exact src_nw wq (nwOf z)
        case hLen => first | omega | (simp; omega)
        intro v4 w4 g4 ho4 hg4 hr4
        have hv4 : ∃ a4 N4 c4, v4 = .slice a4 N4 c4 := ho4.shape.elim fun a4 h => h.elim fun c4 h2 => ⟨a4, _, c4, h2.1⟩
        obtain ⟨a4, N4, c4, rfl⟩ := hv4
        have HF : Hid (∃ ms' r, WithI l x (k + 1) true ms' ∧ NwNew w0 w4 (.slice a4 N4 c4) (ms'.map nwOf) r) := ⟨_, some g4, HI2.out, by
          rw [List.map_append]
          exact (HNQ.out.later ((Below.refl _ _).alloc (Nat.le_refl _) _)).app ho4 hg4 (by simpa using hr4)⟩
        clear ho4 hg4 hr4 HNQ HI2 y0 y1 f0 f1
        go_wp2
        go_roundw
        case rel => exact ⟨k + 1, true, by omega, by go_num, by trivial, HF⟩
        case measure => simp [intOf]; omega
      | false =>
        by_cases hx : x.1 < (l.getD k ([], 0)).1
        · have HI2 := Hid.mkR (HI.out.lay hlt hx)
          have hbl : Op.bytesLess (str (l.getD k ([], 0)).1).toList (str x.1).toList = false := by rw [less_txt]; exact decide_eq_false (List.lt_asymm hx)
          have hbe : ((str (l.getD k ([], 0)).1).toList == (str x.1).toList) = false := by rw [same_txt]; exact beq_eq_false_iff_ne.mpr (fun e => List.lt_irrefl _ (e ▸ hx))
          clear HI hx
          generalize hz : l.getD k ([], 0) = z at d0 d1 HI2 hbl hbe
          have HZ := Hid.mkR hz
          clear hz
          go_wp2_with fail
          go_quiet (fail)
          have HNQ := Hid.mkR (HNN.out.later (below_drewN (Below.refl _ _) nq))
          have y0 : (wr.drewN nq).cell? ⟨w.heap.size, 0, none⟩ = some (.string (str x.1)) := x0
          have y1 : (wr.drewN nq).cell? ⟨w.heap.size, 1, none⟩ = some (.int .i64 (x.2 : Int)) := x1
          have f0 : (wr.drewN nq).cell? ⟨g, k * 2, none⟩ = some (.string (str z.1)) := d0
          have f1 : (wr.drewN nq).cell? ⟨g, k * 2 + 1, none⟩ = some (.int .i64 (z.2 : Int)) := d1
          clear x0 x1 d0 d1 HNN
          generalize wr.drewN nq = wq at *
          go_wp2_with (at_builtin; refine wpList_append_nw _ rfl _ _ rfl _ _ (ms.map nwOf) [nwOf x] r2 rfl rfl ?hOwn ?hSrc ?hLen (.inr (Nat.succ_pos _)) ?_)
          case hOwn => exact HNQ.out.row.later ((Below.refl _ _).alloc (Nat.le_refl _) _)
          case hSrc => exact src_nw wq (nwOf x)
          case hLen => first | omega | (simp; omega)
          intro v4 w4 g4 ho4 hg4 hr4
          have hv4 : ∃ a4 N4 c4, v4 = .slice a4 N4 c4 := ho4.shape.elim fun a4 h => h.elim fun c4 h2 => ⟨a4, _, c4, h2.1⟩
          obtain ⟨a4, N4, c4, rfl⟩ := hv4
          have hN4 := (HNQ.out.later ((Below.refl _ _).alloc (Nat.le_refl _) _)).app ho4 hg4 (by simpa using hr4)
          obtain ⟨g9, e9, e9b, f2, f3⟩ := row_nw (HR.out.later (HB0.out.trans (hN4.below.mono HB0.out.size))) hlt
          cases e9b
          rw [HZ.out] at f2 f3
          have HN4 := Hid.mkR hN4
          clear ho4 hg4 hr4 HNQ y0 y1 f0 f1 hN4
          go_wp2_with (at_builtin; refine wpList_append_nw _ rfl _ _ rfl _ _ (ms.map nwOf ++ [nwOf x]) [nwOf z] (some g4) rfl rfl ?hOwn ?hSrc ?hLen (.inr (Nat.succ_pos _)) ?_)
          case hOwn => exact HN4.out.row.later ((Below.refl _ _).alloc (Nat.le_refl _) _)
          case hSrc => exact src_nw w4 (nwOf z)
          case hLen => first | omega | (simp; omega)
          intro v5 w5 g5 ho5 hg5 hr5
          have hv5 : ∃ a4 N4 c4, v5 = .slice a4 N4 c4 := ho5.shape.elim fun a4 h => h.elim fun c4 h2 => ⟨a4, _, c4, h2.1⟩
          obtain ⟨a5, N5, c5, rfl⟩ := hv5
          have HF : Hid (∃ ms' r, WithI l x (k + 1) true ms' ∧ NwNew w0 w5 (.slice a5 N5 c5) (ms'.map nwOf) r) := ⟨_, some g5, HI2.out, by
            rw [show (ms ++ [x] ++ [z]).map nwOf = ms.map nwOf ++ [nwOf x, nwOf z] by simp]
            exact (HN4.out.later ((Below.refl _ _).alloc (Nat.le_refl _) _)).app ho5 hg5 (by simpa using hr5)⟩
          clear ho5 hg5 hr5 HN4 HI2 f2 f3
          go_wp2
          go_roundw
          case rel => exact ⟨k + 1, true, by omega, by go_num, by trivial, HF⟩
          case measure => simp [intOf]; omega
        · have HI2 := Hid.mkR (HI.out.pass hlt hx)
          by_cases he : (l.getD k ([], 0)).1 = x.1
          · have hbl : Op.bytesLess (str (l.getD k ([], 0)).1).toList (str x.1).toList = false := by rw [less_txt, he]; exact decide_eq_false (List.lt_irrefl _)
            have hbe : ((str (l.getD k ([], 0)).1).toList == (str x.1).toList) = true := by rw [same_txt]; exact beq_iff_eq.mpr he
            clear HI hx he
            generalize l.getD k ([], 0) = z at d0 d1 HI2 hbl hbe
            go_wp2_with fail
            go_quiet (fail)
            have HNQ := Hid.mkR (HNN.out.later (below_drewN (Below.refl _ _) nq))
            have y0 : (wr.drewN nq).cell? ⟨w.heap.size, 0, none⟩ = some (.string (str x.1)) := x0
            have y1 : (wr.drewN nq).cell? ⟨w.heap.size, 1, none⟩ = some (.int .i64 (x.2 : Int)) := x1
            have f0 : (wr.drewN nq).cell? ⟨g, k * 2, none⟩ = some (.string (str z.1)) := d0
            have f1 : (wr.drewN nq).cell? ⟨g, k * 2 + 1, none⟩ = some (.int .i64 (z.2 : Int)) := d1
            clear x0 x1 d0 d1 HNN
            generalize wr.drewN nq = wq at *
            go_wp2_with (at_builtin; refine wpList_append_nw _ rfl _ _ rfl _ _ (ms.map nwOf) [nwOf z] r2 rfl rfl ?hOwn ?hSrc ?hLen (.inr (Nat.succ_pos _)) ?_)
            case hOwn => exact HNQ.out.row.later ((Below.refl _ _).alloc (Nat.le_refl _) _)
            case hSrc => exact src_nw wq (nwOf z)
            case hLen => first | omega | (simp; omega)
            intro v4 w4 g4 ho4 hg4 hr4
            have hv4 : ∃ a4 N4 c4, v4 = .slice a4 N4 c4 := ho4.shape.elim fun a4 h => h.elim fun c4 h2 => ⟨a4, _, c4, h2.1⟩
            obtain ⟨a4, N4, c4, rfl⟩ := hv4
            have HF : Hid (∃ ms' r, WithI l x (k + 1) false ms' ∧ NwNew w0 w4 (.slice a4 N4 c4) (ms'.map nwOf) r) := ⟨_, some g4, HI2.out, by
              rw [List.map_append]
              exact (HNQ.out.later ((Below.refl _ _).alloc (Nat.le_refl _) _)).app ho4 hg4 (by simpa using hr4)⟩
            clear ho4 hg4 hr4 HNQ HI2 y0 y1 f0 f1
            go_wp2
            go_roundw
            case rel => exact ⟨k + 1, false, by omega, by go_num, by trivial, HF⟩
            case measure => simp [intOf]; omega
          · have hbl : Op.bytesLess (str (l.getD k ([], 0)).1).toList (str x.1).toList = true := by rw [less_txt]; exact decide_eq_true (Decidable.byContradiction fun hh => he (List.le_antisymm (List.not_lt.mp hx) (List.not_lt.mp hh)))
            clear HI hx he
            generalize l.getD k ([], 0) = z at d0 d1 HI2 hbl
            go_wp2_with fail
            go_quiet (fail)
            have HNQ := Hid.mkR (HNN.out.later (below_drewN (Below.refl _ _) nq))
            have y0 : (wr.drewN nq).cell? ⟨w.heap.size, 0, none⟩ = some (.string (str x.1)) := x0
            have y1 : (wr.drewN nq).cell? ⟨w.heap.size, 1, none⟩ = some (.int .i64 (x.2 : Int)) := x1
            have f0 : (wr.drewN nq).cell? ⟨g, k * 2, none⟩ = some (.string (str z.1)) := d0
            have f1 : (wr.drewN nq).cell? ⟨g, k * 2 + 1, none⟩ = some (.int .i64 (z.2 : Int)) := d1
            clear x0 x1 d0 d1 HNN
            generalize wr.drewN nq = wq at *
            go_wp2_with (at_builtin; refine wpList_append_nw _ rfl _ _ rfl _ _ (ms.map nwOf) [nwOf z] r2 rfl rfl ?hOwn ?hSrc ?hLen (.inr (Nat.succ_pos _)) ?_)
            case hOwn => exact HNQ.out.row.later ((Below.refl _ _).alloc (Nat.le_refl _) _)
            case hSrc => exact src_nw wq (nwOf z)
            case hLen => first | omega | (simp; omega)
            intro v4 w4 g4 ho4 hg4 hr4
            have hv4 : ∃ a4 N4 c4, v4 = .slice a4 N4 c4 := ho4.shape.elim fun a4 h => h.elim fun c4 h2 => ⟨a4, _, c4, h2.1⟩
            obtain ⟨a4, N4, c4, rfl⟩ := hv4
            have HF : Hid (∃ ms' r, WithI l x (k + 1) false ms' ∧ NwNew w0 w4 (.slice a4 N4 c4) (ms'.map nwOf) r) := ⟨_, some g4, HI2.out, by
              rw [List.map_append]
              exact (HNQ.out.later ((Below.refl _ _).alloc (Nat.le_refl _) _)).app ho4 hg4 (by simpa using hr4)⟩
            clear ho4 hg4 hr4 HNQ HI2 y0 y1 f0 f1
            go_wp2
            go_roundw
            case rel => exact ⟨k + 1, false, by omega, by go_num, by trivial, HF⟩
            case measure => simp [intOf]; omega
    · have hke : k = l.length := by omega
      subst hke
      have HE := Hid.mkR HI.out.ends
      cases y with
      | true =>
        have HF : Hid (∃ r, NwNew w wr (.slice a2 M2 cap2) ((withL l x).map nwOf) r) := ⟨r2, by
          rw [← HE.out.1 rfl]
          exact ⟨HNN.out.row, fun g e => by have := HNN.out.new g e; omega, HB0.out.trans (HNN.out.below.mono HB0.out.size)⟩⟩
        clear hN HNN HI HE x0 x1
        go_wp2
        go_ret
        obtain ⟨r, hr⟩ := HF.out
        exact ⟨_, _, _, r, rfl, hr⟩
      | false =>
        have HE2 := Hid.mkR (HE.out.2 rfl)
        clear hN HE
        go_wp2_with (at_builtin; refine wpList_append_nw _ rfl _ _ rfl _ _ (ms.map nwOf) [nwOf x] r2 rfl rfl ?hOwn ?hSrc ?hLen (.inr (Nat.succ_pos _)) ?_)
        case hOwn => exact HNN.out.row.later ((Below.refl _ _).alloc (Nat.le_refl _) _)
        case hSrc => exact src_nw wr (nwOf x)
        case hLen => first | omega | (simp; omega)
        intro v4 w4 g4 ho4 hg4 hr4
        have hv4 : ∃ a4 N4 c4, v4 = .slice a4 N4 c4 := ho4.shape.elim fun a4 h => h.elim fun c4 h2 => ⟨a4, _, c4, h2.1⟩
        obtain ⟨a4, N4, c4, rfl⟩ := hv4
        have HF : Hid (∃ r, NwNew w w4 (.slice a4 N4 c4) ((withL l x).map nwOf) r) := ⟨some g4, by
          have h9 := (HNN.out.later ((Below.refl _ _).alloc (Nat.le_refl _) _)).app ho4 hg4 (by simpa using hr4)
          rw [← HE2.out, List.map_append]
          exact ⟨h9.row, fun g e => by have := h9.new g e; omega, HB0.out.trans (h9.below.mono HB0.out.size)⟩⟩
        clear ho4 hg4 hr4 HNN HI HE2 x0 x1
        go_wp2
        go_ret
        obtain ⟨r, hr⟩ := HF.out
        exact ⟨_, _, _, r, rfl, hr⟩
end Go.Proofs.YthcnhjmkcekdaaaGreat

namespace Go.Proofs.YthcnhjmkcekdaaaGreat
open Go
set_option linter.unusedVariables false
section
variable {P : Program} {ops : Array Oper} {Q : Exit → Act → World → Prop} {md : Region.Mode} {S : World → Prop}
/-- Whatever order the rest comes in; S is held till operation n. -/
def Till (P : Program) (md : Region.Mode) (ops : Array Oper) (Q : Exit → Act → World → Prop) (S : World → Prop) (n : Nat) : Nat → Array Bool → Act → World → Prop
  | 0, l, a, w => Region.ready md ops l = [] ∧ Q .normal a w
  | f + 1, l, a, w => (Region.ready md ops l = [] → Q .normal a w) ∧ ∀ j ∈ Region.ready md ops l, wpOp P ops Q j (fun a' w' => (j ≠ n → S w') ∧ Till P md ops Q S n f (l.setIfInBounds j true) a' w') a w
theorem Till.any {n : Nat} : ∀ (f : Nat) (l : Array Bool) (a : Act) (w : World), Till P md ops Q S n f l a w → wpAny P md ops Q f l a w
  | 0, _, _, _, h => h
  | f + 1, _, _, _, h => ⟨h.1, fun j hj => wpOp_mono (fun a' w' h' => Till.any f _ a' w' h'.2) (h.2 j hj)⟩
/-- What waits for operation i. -/
def waits (md : Region.Mode) (ops : Array Oper) (i : Nat) : List Nat :=
  (List.range ops.size).foldl (fun D j => if ((ops[j]?).map fun o => o.after.toList.any fun e => Region.binds md e && (e.on == i || D.contains e.on)).getD false then j :: D else D) []
theorem waits_step (md : Region.Mode) (ops : Array Oper) (i : Nat) : ∀ (js : List Nat) (D : List Nat), (∀ d ∈ D, ∃ o, ops[d]? = some o ∧ ∃ e ∈ o.after, Region.binds md e = true ∧ (e.on = i ∨ e.on ∈ D)) →
    ∀ d ∈ js.foldl (fun D j => if ((ops[j]?).map fun o => o.after.toList.any fun e => Region.binds md e && (e.on == i || D.contains e.on)).getD false then j :: D else D) D, ∃ o, ops[d]? = some o ∧ ∃ e ∈ o.after, Region.binds md e = true ∧ (e.on = i ∨ e.on ∈ js.foldl (fun D j => if ((ops[j]?).map fun o => o.after.toList.any fun e => Region.binds md e && (e.on == i || D.contains e.on)).getD false then j :: D else D) D)
  | [], D, h => h
  | j :: js, D, h => by
    rw [List.foldl_cons]
    refine waits_step md ops i js _ ?_
    split
    · rename_i hj
      intro d hd
      rcases List.mem_cons.mp hd with e | e
      · subst e
        cases ho : ops[d]? with
        | none => rw [ho] at hj; simp at hj
        | some o =>
          rw [ho] at hj
          simp only [Option.map_some, Option.getD_some, List.any_eq_true, Bool.and_eq_true, Bool.or_eq_true, beq_iff_eq, List.contains_iff_mem] at hj
          obtain ⟨e, he, h1, h2⟩ := hj
          exact ⟨o, rfl, e, by simpa using he, h1, h2.imp id (fun h3 => List.mem_cons_of_mem _ h3)⟩
      · obtain ⟨o, h1, e', h2, h3, h4⟩ := h d e
        exact ⟨o, h1, e', h2, h3, h4.imp id (fun h5 => List.mem_cons_of_mem _ h5)⟩
    · exact h
theorem waits_spec {i d : Nat} (h : d ∈ waits md ops i) : ∃ o, ops[d]? = some o ∧ ∃ e ∈ o.after, Region.binds md e = true ∧ (e.on = i ∨ e.on ∈ waits md ops i) :=
  waits_step md ops i (List.range ops.size) [] (fun d hd => by cases hd) d h
/-- All that waits for i has not come up, and n is among it. -/
def ahead (md : Region.Mode) (ops : Array Oper) (l : Array Bool) (i n : Nat) : Bool := (waits md ops i).contains n && (waits md ops i).all fun d => !(l.getD d true)
/-- Nothing that waits for i may come up ahead of it. -/
theorem not_ahead {l : Array Bool} {i j : Nat} (hi : l.getD i true = false) (hD : ∀ d ∈ waits md ops i, l.getD d true = false) (hj : j ∈ Region.ready md ops l) : j ∉ waits md ops i := fun h => by
  have hf : ∀ x, l.getD x true = false → l.getD x false = true → False := fun x h1 h2 => by
    rcases Nat.lt_or_ge x l.size with h' | h'
    · simp [h'] at h1 h2; rw [h1] at h2; cases h2
    · simp [Array.getElem?_eq_none h'] at h2
  obtain ⟨o, ho, e, he, hb, hx⟩ := waits_spec h
  obtain ⟨-, o', ho', hall⟩ := mem_ready.1 hj
  rw [ho] at ho'
  cases ho'
  have h1 := hall e he hb
  rcases hx with hx | hx
  · exact hf i hi (by rw [← hx]; exact h1)
  · exact hf _ (hD _ hx) h1
theorem Till.first {i n : Nat} {oi : Oper} {v : Value} (hi : ops[i]? = some oi) (hsel : ∀ (j : Nat) (o : Oper) cs b, ops[j]? = some o → o.op ≠ .select cs b) (hQ : ∀ c a w, Q (.panic c) (a.put oi.dst v) w → Q (.panic c) a w) (hn : n ∈ waits md ops i) :
    ∀ (f : Nat) (l : Array Bool) (a : Act) (w : World), (∀ d ∈ waits md ops i, l.getD d true = false) →
      (∀ j oj, ops[j]? = some oj → j ≠ i → l.getD j true = false → (∀ e ∈ oj.after, Region.binds md e = true → e.on ≠ i) → oi.apart ops oj = true) →
      i ∈ Region.ready md ops l → YieldsIf P ops S oi v a → S w → Till P md ops Q S n f (l.setIfInBounds i true) (a.put oi.dst v) w → Till P md ops Q S n (f + 1) l a w := by
  intro f
  induction f with
  | zero =>
    intro l a w hD hfree hr hy hS H
    refine ⟨fun h => (by rw [h] at hr; cases hr), fun j hj => ?_⟩
    by_cases e : j = i
    · subst e; exact hy.wpOp hi hS ⟨fun _ => hS, H⟩
    · have := ready_mono hj e
      rw [H.1] at this
      cases this
  | succ f ih =>
    intro l a w hD hfree hr hy hS H
    refine ⟨fun h => (by rw [h] at hr; cases hr), fun j hj => ?_⟩
    have hil := (mem_ready.1 hr).1
    have hjn := not_ahead hil hD hj
    by_cases e : j = i
    · subst e; exact hy.wpOp hi hS ⟨fun _ => hS, H⟩
    obtain ⟨hjl, oj, hoj, -⟩ := mem_ready.1 hj
    have hno : ∀ x ∈ oj.after, Region.binds md x = true → x.on ≠ i := fun x hx hb hxi => by
      obtain ⟨-, o2, ho2, hall⟩ := mem_ready.1 hj
      rw [hoj] at ho2
      cases ho2
      have h1 := hall x hx hb
      rw [hxi] at h1
      rcases Nat.lt_or_ge i l.size with h' | h'
      · simp [h'] at hil h1; rw [hil] at h1; cases h1
      · simp [Array.getElem?_eq_none h'] at h1
    have h2 := wpOp_putIf hoj (hfree j oj hoj e hjl hno) (fun cs b => hsel i oi cs b hi) (fun cs b => hsel j oj cs b hoj) hQ hy (H.2 j (ready_mono hj e))
    have hne : j ≠ n := fun e2 => hjn (by rw [e2]; exact hn)
    have hun : ∀ d, (l.setIfInBounds j true).getD d true = false → l.getD d true = false := fun d hd => by
      by_cases e3 : j = d
      · subst e3; exact hjl
      · rw [getD_set_ne true e3] at hd; exact hd
    refine wpOp_mono (fun a' w' h3 => ⟨h3.2.1, ?_⟩) h2
    refine ih (l.setIfInBounds j true) a' w' (fun d hd => ?_) (fun m om hm hmi hml hmn => hfree m om hm hmi (hun m hml) hmn) (ready_mono hr (fun e3 => e e3.symm)) h3.1 (h3.2.1 hne) ?_
    · have : j ≠ d := fun e3 => hjn (by rw [e3]; exact hd)
      rw [getD_set_ne true this]; exact hD d hd
    · rw [Array.setIfInBounds_comm _ _ e]
      exact h3.2.2
theorem Till.take {n : Nat} (i : Nat) {oi : Oper} {v : Value} {f : Nat} {l : Array Bool} {a : Act} {w : World} (hi : ops[i]? = some oi) (hs : Region.noSelect ops = true) (hf : Region.free md ops l i = true) (hr : (Region.ready md ops l).contains i = true) (ha : ahead md ops l i n = true)
    (hQ : ∀ c a w, Q (.panic c) (a.put oi.dst v) w → Q (.panic c) a w) (hy : YieldsIf P ops S oi v a) (hS : S w) (h : Till P md ops Q S n f (l.setIfInBounds i true) (a.put oi.dst v) w) : Till P md ops Q S n (f + 1) l a w := by
  unfold ahead at ha
  rw [Bool.and_eq_true, List.contains_iff_mem, List.all_eq_true] at ha
  exact Till.first hi (Region.noSelect_spec hs) hQ ha.1 f l a w (fun d hd => by simpa using ha.2 d hd) (Region.free_spec hi hf) (by simpa using hr) hy hS h
/-- The one operation that may come up. -/
theorem Till.one {n : Nat} (j : Nat) {o : Oper} {f : Nat} {l : Array Bool} {a : Act} {w : World} (hr : Region.ready md ops l = [j]) (ho : ops[j]? = some o)
    (h : ∀ K : Act → World → Prop, Shut (∀ a w, S w → (S w → Till P md ops Q S n f (l.setIfInBounds j true) a w) → K a w) → if Region.wanted o (yielded ops a.tmps) = true then Oper.wp P o a w K Q else K (a.put o.dst undef) w) : Till P md ops Q S n (f + 1) l a w := by
  refine ⟨fun h0 => (by rw [hr] at h0; cases h0), fun k hk => ?_⟩
  rw [hr] at hk
  rw [List.mem_singleton.1 hk]
  exact wpOp_step ho (fun K hK => h K (fun a w hS hW => hK a w ⟨fun _ => hS, hW hS⟩))
/-- One of the two that may come up. -/
theorem Till.two {n : Nat} (i j : Nat) {oi oj : Oper} {f : Nat} {l : Array Bool} {a : Act} {w : World} (hr : Region.ready md ops l = [i, j]) (hi : ops[i]? = some oi) (hj : ops[j]? = some oj)
    (h1 : ∀ K : Act → World → Prop, Shut (∀ a w, S w → (S w → Till P md ops Q S n f (l.setIfInBounds i true) a w) → K a w) → if Region.wanted oi (yielded ops a.tmps) = true then Oper.wp P oi a w K Q else K (a.put oi.dst undef) w)
    (h2 : ∀ K : Act → World → Prop, Shut (∀ a w, S w → (S w → Till P md ops Q S n f (l.setIfInBounds j true) a w) → K a w) → if Region.wanted oj (yielded ops a.tmps) = true then Oper.wp P oj a w K Q else K (a.put oj.dst undef) w) : Till P md ops Q S n (f + 1) l a w := by
  refine ⟨fun h0 => (by rw [hr] at h0; cases h0), fun k hk => ?_⟩
  rw [hr] at hk
  rcases List.mem_cons.1 hk with e | e
  · rw [e]; exact wpOp_step hi (fun K hK => h1 K (fun a w hS hW => hK a w ⟨fun _ => hS, hW hS⟩))
  · rw [List.mem_singleton.1 e]; exact wpOp_step hj (fun K hK => h2 K (fun a w hS hW => hK a w ⟨fun _ => hS, hW hS⟩))
/-- The last one. -/
theorem Till.last {n : Nat} {o : Oper} {f : Nat} {l : Array Bool} {a : Act} {w : World} (hr : Region.ready md ops l = [n]) (he : Region.ready md ops (l.setIfInBounds n true) = []) (ho : ops[n]? = some o)
    (h : ∀ K : Act → World → Prop, Shut (∀ a w, Q .normal a w → K a w) → if Region.wanted o (yielded ops a.tmps) = true then Oper.wp P o a w K Q else K (a.put o.dst undef) w) : Till P md ops Q S n (f + 1) l a w := by
  refine ⟨fun h0 => (by rw [hr] at h0; cases h0), fun k hk => ?_⟩
  rw [hr] at hk
  rw [List.mem_singleton.1 hk]
  refine wpOp_step ho (fun K hK => h K (fun a w hq => hK a w ⟨fun hne => absurd rfl hne, ?_⟩))
  cases f with
  | zero => exact ⟨he, hq⟩
  | succ f => exact ⟨fun _ => hq, fun j hj => by rw [he] at hj; cases hj⟩
theorem Till.start (n : Nat) {id : Nat} {a : Act} {w : World} (hm : P.follows .mixedOrders = true) (hS : S w.drew) (h : S w.drew → Till P .any ops Q S n ops.size (Array.replicate ops.size false) a w.drew) : (Code.region id ops true).wp P Q a w :=
  wp_region_any hm (Till.any _ _ _ _ (h hS))
end
end Go.Proofs.YthcnhjmkcekdaaaGreat

namespace Go.Proofs.YthcnhjmkcekdaaaGreat
open Go.RowKit Go.Maps Plain
set_option linter.unusedVariables false
set_option linter.unusedSimpArgs false
theorem OwnV.one (w : World) (u : Value) (t : TypeId) : OwnV (w.alloc (.cells #[u] t)) (.slice (some ⟨w.heap.size, 0, none⟩) 1 1) [u] (some w.heap.size) :=
  .inr ⟨w.heap.size, 1, rfl, rfl, by simp, by simp, by unfold maxLen; omega, fun j hj => World.frozen?_alloc_at _ _ _ _ rfl, fun j hj => by
    rw [World.cell?_alloc_at _ _ _ _ rfl]
    have : j = 0 := by omega
    subst this; rfl, fun j hj => by
    rw [World.cell?_alloc_at _ _ _ _ rfl]
    simp⟩
abbrev stepV (kd : Int) (nm to : ByteArray) (at' m : Int) (vb vp : Value) : Value := .agg #[.int .i64 kd, .string nm, .string to, .int .i64 at', .int .i64 m, vb, vp]
/-- A step in its box. -/
def SbAt (w : World) (b : Nat) (cs : List Value) : Prop := ∀ j u, cs[j]? = some u → w.cell? ⟨b, j, none⟩ = some u
theorem SbAt.new (w : World) (cs : List Value) (t : TypeId) : SbAt (w.alloc (.cells cs.toArray t)) w.heap.size cs := fun j u hj => by
  rw [World.cell?_alloc_at _ _ _ _ rfl, ← hj]; simp
theorem SbAt.later {w w' : World} {b : Nat} {cs : List Value} (h : SbAt w b cs) (hb : Below w.heap.size w w') : SbAt w' b cs := fun j u hj => (hb.cell (p := ⟨b, j, none⟩) (cell_lt (h j u hj))).trans (h j u hj)
theorem SbAt.of_block {w w' : World} {b : Nat} {cs : List Value} (h : SbAt w b cs) (hb : w'.heap[b]? = w.heap[b]?) : SbAt w' b cs := fun j u hj => (World.cell?_of_block (w := w) (a := ⟨b, j, none⟩) hb).trans (h j u hj)
end Go.Proofs.YthcnhjmkcekdaaaGreat
