import Derived.Test.YteekmmgopnnioaaDoorMoC
import Derived.WalkSpells
import Derived.Deep.Quiet
import Derived.BigQuiet
import Derived.Deep.RegionHeld3
/-! manifest: the questions of Orphans and Strangers. -/
namespace Go.Proofs.YteekmmgopnnioaaDoor
open Go.RowKit Go.Maps Plain
open Mn (FN parseL ofT lastI leftP orphP strP thoseL)
set_option linter.unusedVariables false
set_option linter.unusedSimpArgs false

set_option maxHeartbeats 4000000 in
set_option maxRecDepth 100000 in
theorem orph1Of (k i g : Int) (t : Bool) (bs b bl bm : Nat) (id : Int) (segs : List Int) (w : World) (hg : I64 g)
    (hs : w.cell? ⟨bs, 0, none⟩ = some (.map (some b))) (hl : w.cell? ⟨bl, 0, none⟩ = some (.int .i64 (lastI segs))) (hm : w.cell? ⟨bm, 0, none⟩ = some (.int .i64 id)) (hS : SetI w b segs) :
    Calls Tryd.prog 28 #[.agg #[.int .i64 k, .int .i64 i, .int .i64 g, .bool t], .pointer (some ⟨bs, 0, none⟩), .pointer (some ⟨bl, 0, none⟩), .pointer (some ⟨bm, 0, none⟩)] w fun e w' => e = .returned (.bool (orphP id segs ⟨k, i, g, t⟩)) ∧ Below w.heap.size w w' := by
  obtain ⟨w0, hw0⟩ : ∃ w0, w.alloc (.cells #[.int .i64 k, .int .i64 i, .int .i64 g, .bool t] 23) = w0 := ⟨_, rfl⟩
  have hB0 : Below w.heap.size w w0 := by rw [← hw0]; exact (Below.refl _ _).alloc (Nat.le_refl _) _
  have HB0 : Hid (Below w.heap.size w w0) := hB0
  have m0 : w0.cell? ⟨w.heap.size, 0, none⟩ = some (.int .i64 k) := by rw [← hw0]; exact World.cell?_alloc_at _ _ _ _ rfl
  have m1 : w0.cell? ⟨w.heap.size, 1, none⟩ = some (.int .i64 i) := by rw [← hw0]; exact World.cell?_alloc_at _ _ _ _ rfl
  have m2 : w0.cell? ⟨w.heap.size, 2, none⟩ = some (.int .i64 g) := by rw [← hw0]; exact World.cell?_alloc_at _ _ _ _ rfl
  have m3 : w0.cell? ⟨w.heap.size, 3, none⟩ = some (.bool t) := by rw [← hw0]; exact World.cell?_alloc_at _ _ _ _ rfl
  have ns : w0.cell? ⟨bs, 0, none⟩ = some (.map (some b)) := (hB0.cell (p := ⟨bs, 0, none⟩) (cell_lt hs)).trans hs
  obtain ⟨w1, hw1⟩ : ∃ w1, w0.alloc (.cells #[] 54) = w1 := ⟨_, rfl⟩
  have hB1 : Below w0.heap.size w0 w1 := by rw [← hw1]; exact (Below.refl _ _).alloc (Nat.le_refl _) _
  have HB1 : Hid (Below w.heap.size w w1) := below_step hB0 hB1
  have p0 : w1.cell? ⟨w.heap.size, 0, none⟩ = some (.int .i64 k) := (hB1.cell (p := ⟨w.heap.size, 0, none⟩) (cell_lt m0)).trans m0
  have p1 : w1.cell? ⟨w.heap.size, 1, none⟩ = some (.int .i64 i) := (hB1.cell (p := ⟨w.heap.size, 1, none⟩) (cell_lt m1)).trans m1
  have p2 : w1.cell? ⟨w.heap.size, 2, none⟩ = some (.int .i64 g) := (hB1.cell (p := ⟨w.heap.size, 2, none⟩) (cell_lt m2)).trans m2
  have p3 : w1.cell? ⟨w.heap.size, 3, none⟩ = some (.bool t) := (hB1.cell (p := ⟨w.heap.size, 3, none⟩) (cell_lt m3)).trans m3
  have nl : w1.cell? ⟨bl, 0, none⟩ = some (.int .i64 (lastI segs)) := (HB1.out.cell (p := ⟨bl, 0, none⟩) (cell_lt hl)).trans hl
  have nm : w1.cell? ⟨bm, 0, none⟩ = some (.int .i64 id) := (HB1.out.cell (p := ⟨bm, 0, none⟩) (cell_lt hm)).trans hm
  have HM : Hid (∀ u, Below w1.heap.size w1 u → u.cell? ⟨w.heap.size, 1, none⟩ = some (.int .i64 i) ∧ u.cell? ⟨bm, 0, none⟩ = some (.int .i64 id)) := fun u hu =>
    ⟨(hu.cell (p := ⟨w.heap.size, 1, none⟩) (cell_lt p1)).trans p1, (hu.cell (p := ⟨bm, 0, none⟩) (cell_lt nm)).trans nm⟩
  have hlk := (hS.below hB0).look g hg
  have HO : Hid (∀ u, Calls Tryd.prog 29 #[.agg #[.int .i64 k, .int .i64 i, .int .i64 g, .bool t]] u fun e w' => e = .returned (.bool (ofT ⟨k, i, g, t⟩)) ∧ Below u.heap.size u w') := fun u => isOfTopicOf k i g t u
  have HR : Hid (orphP id segs ⟨k, i, g, t⟩ = ((ofT ⟨k, i, g, t⟩ && (i == id)) && ((t || (!(k == 3) && !segs.contains g)) || ((k == 2) && (g == lastI segs))))) := rfl
  generalize orphP id segs ⟨k, i, g, t⟩ = R at HR ⊢
  generalize ofT ⟨k, i, g, t⟩ = T at HR HO
  generalize segs.contains g = C at HR hlk
  generalize lastI segs = la at HR nl
  clear hs hl hm hS hB0 hB1 nm m1 m0 m3
  have HLf : Hid (∃ Lf : Bool, Lf = ((t || (!(k == 3) && !C)) || ((k == 2) && (g == la))) ∧ R = ((T && (i == id)) && Lf)) := ⟨_, rfl, HR.out⟩
  clear HR
  obtain ⟨Lf, hLf, hR⟩ := HLf.out
  have HR : Hid (R = ((T && (i == id)) && Lf)) := hR
  have HL : Hid (Lf = ((t || (!(k == 3) && !C)) || ((k == 2) && (g == la)))) := hLf
  clear hLf hR HLf
  have fin : ∀ u, Below w1.heap.size w1 u → Hid (Below w.heap.size w u) := fun u hu => below_step HB1.out hu
  have HF : Hid (∀ u, Below w1.heap.size w1 u → Below w.heap.size w u) := fun u hu => (fin u hu).out
  clear fin
  cases t
  · by_cases h3 : k = 3
    · subst h3
      have HL1 : Hid (Lf = false) := by rw [Hid, HL.out]; simp
      clear HL
      go_enter Tryd.func28, Tryd.ntmps28
      go_wp2_with fail
      refine (HO.out _).mono ?_
      rintro e u ⟨rfl, hu⟩
      obtain ⟨q1, qm⟩ := HM.out u hu
      have HU : Hid (Below w.heap.size w u) := HF.out u hu
      clear hu
      cases T with
      | false =>
        go_wp2
        go_ret
        exact ⟨by rw [HR.out]; rfl, HU.out⟩
      | true =>
        by_cases hi : i = id
        · subst hi
          have HR2 : Hid (R = false) := by rw [Hid, HR.out, HL1.out]; simp
          go_wp2
          go_ret
          exact ⟨by rw [HR2.out]; rfl, HU.out⟩
        · have hi' : (i == id) = false := by simpa using hi
          have HR2 : Hid (R = false) := by rw [Hid, HR.out, hi']; rfl
          go_wp2
          go_ret
          exact ⟨by rw [HR2.out]; rfl, HU.out⟩
    · have h3' : (k == 3) = false := by simpa using h3
      rw [h3'] at HL
      by_cases h2 : k = 2
      · subst h2
        cases C
        · have HL1 : Hid (Lf = true) := by rw [Hid, HL.out]; simp
          clear HL
          go_enter Tryd.func28, Tryd.ntmps28
          go_wp2_with fail
          refine (HO.out _).mono ?_
          rintro e u ⟨rfl, hu⟩
          obtain ⟨q1, qm⟩ := HM.out u hu
          have HU : Hid (Below w.heap.size w u) := HF.out u hu
          clear hu
          cases T with
          | false =>
            go_wp2
            go_ret
            exact ⟨by rw [HR.out]; rfl, HU.out⟩
          | true =>
            by_cases hi : i = id
            · subst hi
              have HR2 : Hid (R = true) := by rw [Hid, HR.out, HL1.out]; simp
              go_wp2
              go_ret
              exact ⟨by rw [HR2.out]; rfl, HU.out⟩
            · have hi' : (i == id) = false := by simpa using hi
              have HR2 : Hid (R = false) := by rw [Hid, HR.out, hi']; rfl
              go_wp2
              go_ret
              exact ⟨by rw [HR2.out]; rfl, HU.out⟩
        · by_cases hg2 : g = la
          · subst hg2
            have HL1 : Hid (Lf = true) := by rw [Hid, HL.out]; simp
            clear HL
            go_enter Tryd.func28, Tryd.ntmps28
            go_wp2_with fail
            refine (HO.out _).mono ?_
            rintro e u ⟨rfl, hu⟩
            obtain ⟨q1, qm⟩ := HM.out u hu
            have HU : Hid (Below w.heap.size w u) := HF.out u hu
            clear hu
            cases T with
            | false =>
              go_wp2
              go_ret
              exact ⟨by rw [HR.out]; rfl, HU.out⟩
            | true =>
              by_cases hi : i = id
              · subst hi
                have HR2 : Hid (R = true) := by rw [Hid, HR.out, HL1.out]; simp
                go_wp2
                go_ret
                exact ⟨by rw [HR2.out]; rfl, HU.out⟩
              · have hi' : (i == id) = false := by simpa using hi
                have HR2 : Hid (R = false) := by rw [Hid, HR.out, hi']; rfl
                go_wp2
                go_ret
                exact ⟨by rw [HR2.out]; rfl, HU.out⟩
          · have hg3 : (g == la) = false := by simpa using hg2
            rw [hg3] at HL
            have HL1 : Hid (Lf = false) := by rw [Hid, HL.out]; simp
            clear HL
            go_enter Tryd.func28, Tryd.ntmps28
            go_wp2_with fail
            refine (HO.out _).mono ?_
            rintro e u ⟨rfl, hu⟩
            obtain ⟨q1, qm⟩ := HM.out u hu
            have HU : Hid (Below w.heap.size w u) := HF.out u hu
            clear hu
            cases T with
            | false =>
              go_wp2
              go_ret
              exact ⟨by rw [HR.out]; rfl, HU.out⟩
            | true =>
              by_cases hi : i = id
              · subst hi
                have HR2 : Hid (R = false) := by rw [Hid, HR.out, HL1.out]; simp
                go_wp2
                go_ret
                exact ⟨by rw [HR2.out]; rfl, HU.out⟩
              · have hi' : (i == id) = false := by simpa using hi
                have HR2 : Hid (R = false) := by rw [Hid, HR.out, hi']; rfl
                go_wp2
                go_ret
                exact ⟨by rw [HR2.out]; rfl, HU.out⟩
      · have h2' : (k == 2) = false := by simpa using h2
        rw [h2'] at HL
        cases C
        · have HL1 : Hid (Lf = true) := by rw [Hid, HL.out]; simp
          clear HL
          go_enter Tryd.func28, Tryd.ntmps28
          go_wp2_with fail
          refine (HO.out _).mono ?_
          rintro e u ⟨rfl, hu⟩
          obtain ⟨q1, qm⟩ := HM.out u hu
          have HU : Hid (Below w.heap.size w u) := HF.out u hu
          clear hu
          cases T with
          | false =>
            go_wp2
            go_ret
            exact ⟨by rw [HR.out]; rfl, HU.out⟩
          | true =>
            by_cases hi : i = id
            · subst hi
              have HR2 : Hid (R = true) := by rw [Hid, HR.out, HL1.out]; simp
              go_wp2
              go_ret
              exact ⟨by rw [HR2.out]; rfl, HU.out⟩
            · have hi' : (i == id) = false := by simpa using hi
              have HR2 : Hid (R = false) := by rw [Hid, HR.out, hi']; rfl
              go_wp2
              go_ret
              exact ⟨by rw [HR2.out]; rfl, HU.out⟩
        · have HL1 : Hid (Lf = false) := by rw [Hid, HL.out]; simp
          clear HL
          go_enter Tryd.func28, Tryd.ntmps28
          go_wp2_with fail
          refine (HO.out _).mono ?_
          rintro e u ⟨rfl, hu⟩
          obtain ⟨q1, qm⟩ := HM.out u hu
          have HU : Hid (Below w.heap.size w u) := HF.out u hu
          clear hu
          cases T with
          | false =>
            go_wp2
            go_ret
            exact ⟨by rw [HR.out]; rfl, HU.out⟩
          | true =>
            by_cases hi : i = id
            · subst hi
              have HR2 : Hid (R = false) := by rw [Hid, HR.out, HL1.out]; simp
              go_wp2
              go_ret
              exact ⟨by rw [HR2.out]; rfl, HU.out⟩
            · have hi' : (i == id) = false := by simpa using hi
              have HR2 : Hid (R = false) := by rw [Hid, HR.out, hi']; rfl
              go_wp2
              go_ret
              exact ⟨by rw [HR2.out]; rfl, HU.out⟩
  · have HL1 : Hid (Lf = true) := by rw [Hid, HL.out]; simp
    clear HL
    go_enter Tryd.func28, Tryd.ntmps28
    go_wp2_with fail
    refine (HO.out _).mono ?_
    rintro e u ⟨rfl, hu⟩
    obtain ⟨q1, qm⟩ := HM.out u hu
    have HU : Hid (Below w.heap.size w u) := HF.out u hu
    clear hu
    cases T with
    | false =>
      go_wp2
      go_ret
      exact ⟨by rw [HR.out]; rfl, HU.out⟩
    | true =>
      by_cases hi : i = id
      · subst hi
        have HR2 : Hid (R = true) := by rw [Hid, HR.out, HL1.out]; simp
        go_wp2
        go_ret
        exact ⟨by rw [HR2.out]; rfl, HU.out⟩
      · have hi' : (i == id) = false := by simpa using hi
        have HR2 : Hid (R = false) := by rw [Hid, HR.out, hi']; rfl
        go_wp2
        go_ret
        exact ⟨by rw [HR2.out]; rfl, HU.out⟩
end Go.Proofs.YteekmmgopnnioaaDoor
