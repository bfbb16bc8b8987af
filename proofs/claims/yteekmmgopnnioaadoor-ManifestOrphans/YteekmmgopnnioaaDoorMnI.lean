import Derived.Test.YteekmmgopnnioaaDoorMnH
/-! Names of files: numbers and kinds; the parts of a name. -/
namespace Go.Proofs.YteekmmgopnnioaaDoor.Mn
open Go.RowKit
set_option linter.unusedVariables false
set_option linter.unusedSimpArgs false

theorem cell_lt {w : World} {a : Addr} {v : Value} (h : w.cell? a = some v) : a.block < w.heap.size := by
  unfold World.cell? at h
  cases e : w.heap[a.block]? with
  | none => rw [e] at h; simp at h
  | some o => exact (Array.getElem?_eq_some_iff.mp e).1
theorem bw_below (w : World) (e : TypeId) (s : ByteArray) : Below w.heap.size w (Lib.bytesWorld w e s) :=
  ⟨rfl, rfl, rfl, by rw [Lib.bytesWorld_size]; omega, fun x hx => Lib.bytesWorld_at_old w e s x hx⟩
theorem neq_of {s : ByteArray} {l : By} (h : s ≠ ⟨l.toArray⟩) : (s.toList == l) = false := by
  rw [ByteArray.toList_eq, beq_eq_false_iff_ne]
  intro e
  apply h
  apply ByteArray.ext
  rw [← e]
def synN : String := ((Rows.manifestNamesRow.laid.map Prod.fst).getD 5 "")
def rngN : String := ((Rows.manifestNamesRow.laid.map Prod.fst).getD 4 "")
/-- The errors that strconv reads are there. -/
def Errs (w : World) : Prop := (∃ tp p, w.var? Tryd.prog synN = some #[.iface tp p]) ∧ (∃ v, w.cell? ⟨3, 0, none⟩ = some v ∧ (v = .nilIface ∨ ∃ te pe, v = .iface te pe))
theorem var_later {w w' : World} {n : String} {cs : Array Value} (h : w.var? Tryd.prog n = some cs) (hb : Below w.heap.size w w') : w'.var? Tryd.prog n = some cs := by
  unfold World.var? at h ⊢
  cases hg : Tryd.prog.globalNamed n with
  | none => simp [hg] at h
  | some g =>
    simp only [hg, Option.bind_some] at h ⊢
    have hlt : g < w.heap.size := by
      rcases Nat.lt_or_ge g w.heap.size with h' | h'
      · exact h'
      · simp [Array.getElem?_eq_none h'] at h
    rw [hb.block g hlt]
    exact h
theorem Errs.later {w w' : World} (h : Errs w) (hb : Below w.heap.size w w') : Errs w' := by
  obtain ⟨⟨tp, p, h1⟩, ⟨u, h3, h4⟩⟩ := h
  have l2 : 3 < w.heap.size := cell_lt h3
  exact ⟨⟨tp, p, var_later h1 hb⟩, ⟨u, (hb.cell l2).trans h3, h4⟩⟩

def AtoiP (s : ByteArray) (w : World) (e : Ending) (w' : World) : Prop := ∃ v, e = .returned (.tuple #[.int .i64 (num s.data.toList), v]) ∧ Below w.heap.size w w'
theorem atoiOf (s : ByteArray) (hs : s.size ≤ 281474976710656) (w : World) (h : Errs w) : Calls Tryd.prog 47 #[.string s] w (AtoiP s w) := by
  obtain ⟨⟨tp, p, h1⟩, ⟨u, h3, h4⟩⟩ := h
  unfold AtoiP num
  cases hh : Lib.atoiAll s.data.toList with
  | ok n =>
    refine (Any.strconv_Atoi_ok Tryd.laysAtoi s (by omega) n hh w).mono ?_
    rintro e w' ⟨rfl, rfl | ⟨t, rfl⟩⟩
    · exact ⟨_, rfl, Below.refl _ _⟩
    · exact ⟨_, rfl, bw_below _ _ _⟩
  | range =>
    refine (Any.strconv_Atoi_range Tryd.laysAtoi s hs hh u w h3 h4).mono ?_
    rintro e w' ⟨N, rfl, _, _, hb⟩
    exact ⟨_, rfl, hb⟩
  | _ =>
    refine (Any.strconv_Atoi_syntax_var Tryd.laysAtoi s hs hh tp p w h1).mono ?_
    rintro e w' ⟨N, rfl, _, _, hb⟩
    exact ⟨_, rfl, hb⟩
theorem numberOf (s : ByteArray) (hs : s.size ≤ 281474976710656) (w : World) (h : Errs w) : Calls Tryd.prog 41 #[.string s] w fun e w' => e = .returned (.int .i64 (num s.data.toList)) ∧ Below w.heap.size w w' := by
  have HA : Hid (Calls Tryd.prog 47 #[.string s] w (AtoiP s w)) := atoiOf s hs w h
  generalize hn : num s.data.toList = n
  clear h hs
  go_enter Tryd.func41, Tryd.ntmps41
  go_wp2_with fail
  refine HA.out.mono ?_
  rintro e w1 ⟨v, rfl, hb⟩
  have HB : Hid (Below w.heap.size w w1) := hb
  rw [hn]
  clear hb HA
  go_wp2
  go_ret
  exact ⟨rfl, HB.out⟩
theorem ba_eq {s : ByteArray} {l : By} : (s = ⟨l.toArray⟩) ↔ s.data.toList = l := by
  constructor
  · rintro rfl; simp
  · intro h
    apply ByteArray.ext
    rw [← h]
theorem kindOfOf (s : ByteArray) (w : World) : Calls Tryd.prog 40 #[.string s] w fun e w' => e = .returned (.int .i64 (kindL s.data.toList)) ∧ w' = w := by
  by_cases h1 : s = ⟨#[115, 101, 103]⟩
  · subst h1
    go_enter Tryd.func40, Tryd.ntmps40
    go_wp2
    go_ret
    exact ⟨rfl, rfl⟩
  by_cases h2 : s = ⟨#[104, 105, 110, 116]⟩
  · subst h2
    go_enter Tryd.func40, Tryd.ntmps40
    go_wp2
    go_ret
    exact ⟨rfl, rfl⟩
  by_cases h3 : s = ⟨#[109, 97, 110]⟩
  · subst h3
    go_enter Tryd.func40, Tryd.ntmps40
    go_wp2
    go_ret
    exact ⟨rfl, rfl⟩
  have HK : Hid (kindL s.data.toList = 0) := by
    unfold Hid kindL
    rw [if_neg (fun e => h1 (ba_eq.mpr e)), if_neg (fun e => h2 (ba_eq.mpr e)), if_neg (fun e => h3 (ba_eq.mpr e))]
  have d1 := neq_of (l := [115, 101, 103]) h1
  have d2 := neq_of (l := [104, 105, 110, 116]) h2
  have d3 := neq_of (l := [109, 97, 110]) h3
  clear h1 h2 h3
  go_enter Tryd.func40, Tryd.ntmps40
  go_wp2
  go_ret
  exact ⟨by rw [HK.out]; rfl, rfl⟩
end Go.Proofs.YteekmmgopnnioaaDoor.Mn
