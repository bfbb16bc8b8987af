import Derived.Test.YtelhjdplghpnbaaSyF
import Derived.Test.YtelhjdplghpnbaaSyA
import Derived.Test.YtelhjdplghpnbaaSdL
import Derived.Shelf.Abstract
/-! The program's slices.ContainsFunc, giveTurn, spend. -/
namespace Go.Proofs.Ytelhjdplghpnbaa
open Go.RowKit Plain
set_option linter.unusedVariables false
set_option linter.unusedSimpArgs false

theorem enter_waits : ∀ (args : Array Value) (w : World), (callFunc 31 args).run Try.prog w = .ok (.enter 31 args) w := enters_of Try.func31 (by kernel_rfl) rfl
set_option maxHeartbeats 4000000 in
set_option maxRecDepth 100000 in
theorem sIndexFuncOf (l : List Qu) (v : Value) (w : World) (h : QsAt w v l) : Calls Try.prog 47 #[v, .func (.func 31) #[] #[]] w fun e w' => ∃ q : Int, e = .returned (.int .i64 q) ∧ decide (0 ≤ q) = waitsT ⟨l, 0, false⟩ ∧ Below w.heap.size w w' := by
  obtain ⟨a, cap, rfl, hl⟩ := h.shape
  have HY : Hid (∀ j, j < l.length → (l.getD j Qu.zero).costs.length ≠ 0 → waitsT ⟨l, 0, false⟩ = true) := fun j hj => waits_yes (t := ⟨l, 0, false⟩) hj
  have HO : Hid ((∀ j, j < l.length → (l.getD j Qu.zero).costs.length = 0) → waitsT ⟨l, 0, false⟩ = false) := fun h => waits_no (t := ⟨l, 0, false⟩) h
  generalize waitsT ⟨l, 0, false⟩ = A at *
  have HC : Hid (∀ i, i < l.length → ∃ b off ca cc, a = some ⟨b, off, none⟩ ∧ ∀ u, Below w.heap.size w u → u.cell? ⟨b, off + i * 4, none⟩ = some (.int .i64 (l.getD i Qu.zero).id) ∧ u.cell? ⟨b, off + i * 4 + 1, none⟩ = some (.int .i64 (l.getD i Qu.zero).quantum) ∧ u.cell? ⟨b, off + i * 4 + 2, none⟩ = some (.int .i64 (l.getD i Qu.zero).deficit) ∧ u.cell? ⟨b, off + i * 4 + 3, none⟩ = some (.slice ca (l.getD i Qu.zero).costs.length cc)) := fun i hi => by
    obtain ⟨b, off, ca, cc, e, h1, h2⟩ := h.at hi
    exact ⟨b, off, ca, cc, e, fun u hu => ⟨(h1 u hu).1.c0, (h1 u hu).1.c1, (h1 u hu).1.c2, (h1 u hu).1.c3⟩⟩
  clear h
  have eg := enter_waits
  go_enter Try.func47, Try.ntmps47
  go_wp2
  go_loopw [8] (fun i u => ∃ k : Nat, k ≤ l.length ∧ i = .int .i64 k ∧ Hid (∀ j, j < k → (l.getD j Qu.zero).costs.length = 0) ∧ Hid (Below w.heap.size w u)) (fun i _ => l.length - (intOf i).toNat)
  case atStart => exact ⟨0, by omega, rfl, fun j hj => by omega, Below.refl _ _⟩
  case round =>
    obtain ⟨k, hk, rfl, HZ, HBW⟩ := hrel
    by_cases hlt : k < l.length
    · obtain ⟨b, off, ca, cc, rfl, hcu⟩ := HC.out k hlt
      obtain ⟨c0, c1, c2, c3⟩ := hcu wr HBW.out
      have HY1 := Hid.mkT (HY.out k hlt)
      have HN : Hid ((l.getD k Qu.zero).costs.length = 0 → ∀ j, j < k + 1 → (l.getD j Qu.zero).costs.length = 0) := fun e j hj => by
        by_cases e2 : j = k
        · rw [e2]; exact e
        · exact HZ.out j (by omega)
      have hki : (k : Int) < (l.length : Int) := by omega
      clear hcu
      generalize (l.getD k Qu.zero).costs.length = N at *
      generalize (l.getD k Qu.zero).id = xi at *
      generalize (l.getD k Qu.zero).quantum = xq at *
      generalize (l.getD k Qu.zero).deficit = xd at *
      go_wp2_with fail
      refine (qwaitsOf xi xq xd ca N cc _).mono ?_
      rintro e w1 ⟨rfl, hb1⟩
      have HBV : Hid (Below w.heap.size w w1) := below_of HBW.out hb1
      by_cases hN : N = 0
      · subst hN
        have HN2 := Hid.mkT (HN.out rfl)
        clear HN HY1
        go_wp2
        go_roundw
        case rel => exact ⟨k + 1, by omega, by go_num, HN2.out, HBV.out⟩
        case measure => simp only [intOf]; omega
      · have HA : Hid (A = true) := HY1.out hN
        have hN2 : decide (0 < N) = true := by simp; omega
        clear HN HY1
        go_wp2
        go_ret
        exact ⟨k, rfl, by rw [HA.out]; simp, HBV.out⟩
    · have hkn : l.length = k := by omega
      have HA : Hid (A = false) := HO.out (by rw [hkn]; exact HZ.out)
      clear HO
      go_wp2
      go_ret
      exact ⟨-1, rfl, by rw [HA.out]; rfl, HBW.out⟩
set_option maxHeartbeats 1000000 in
theorem sContainsFuncOf (l : List Qu) (v : Value) (w : World) (h : QsAt w v l) : Calls Try.prog 30 #[v, .func (.func 31) #[] #[]] w fun e w' => e = .returned (.bool (waitsT ⟨l, 0, false⟩)) ∧ Below w.heap.size w w' := by
  have HI := Hid.mkT (sIndexFuncOf l v w h)
  generalize waitsT ⟨l, 0, false⟩ = A at *
  clear h
  go_enter Try.func30, Try.ntmps30
  go_wp2_with fail
  refine HI.out.mono ?_
  rintro e w1 ⟨q, rfl, hq, hb⟩
  cases A with
  | true =>
    have hq' : 0 ≤ q := by simpa using hq
    go_wp2
    go_ret
    exact ⟨rfl, hb⟩
  | false =>
    have hq' : ¬ 0 ≤ q := by simpa using hq
    go_wp2
    go_ret
    exact ⟨rfl, hb⟩
/-- The box of turns that is written over. -/
structure TuB (u : World) (B : Nat) (v : Value) (z : Int) (f : Bool) : Prop where
  b0 : u.cell? ⟨B, 0, none⟩ = some v
  b1 : u.cell? ⟨B, 1, none⟩ = some (.int .i64 z)
  b2 : u.cell? ⟨B, 2, none⟩ = some (.bool f)
  fz : ∀ i, i < 3 → u.frozen? ⟨B, i, none⟩ = false
theorem TuB.lt {u : World} {B : Nat} {v : Value} {z : Int} {f : Bool} (h : TuB u B v z f) : B < u.heap.size := cell_lt h.b0
theorem TuB.block {u u' : World} {B : Nat} {v : Value} {z : Int} {f : Bool} (h : TuB u B v z f) (hb : u'.heap[B]? = u.heap[B]?) : TuB u' B v z f := by
  have cc : ∀ j, u'.cell? ⟨B, j, none⟩ = u.cell? ⟨B, j, none⟩ := fun j => World.cell?_of_block (w := u) (a := ⟨B, j, none⟩) hb
  exact ⟨by rw [cc]; exact h.b0, by rw [cc]; exact h.b1, by rw [cc]; exact h.b2, fun i hi => by rw [World.frozen?_of_block (w := u) (a := ⟨B, i, none⟩) hb]; exact h.fz i hi⟩
theorem TuB.later {u u' : World} {B : Nat} {v : Value} {z : Int} {f : Bool} (h : TuB u B v z f) (hb : Below u.heap.size u u') : TuB u' B v z f := h.block (hb.block _ h.lt)
theorem TuB.kept {u u' : World} {B : Nat} {v : Value} {z : Int} {f : Bool} {r : Option Nat} (h : TuB u B v z f) (k : u.grownBy u' r) (hr : r ≠ some B) : TuB u' B v z f := h.block (k.block B h.lt (fun e => hr (by first | exact e | exact e.symm)))
theorem TuB.setV {u : World} {B : Nat} {v : Value} {z : Int} {f : Bool} (h : TuB u B v z f) (v' : Value) : TuB (u.setCell ⟨B, 0, none⟩ v') B v' z f := by
  have ot : ∀ j, j ≠ 0 → (u.setCell ⟨B, 0, none⟩ v').cell? ⟨B, j, none⟩ = u.cell? ⟨B, j, none⟩ := fun j e => World.cell?_setCell_other _ _ _ _ (by simp only [ne_eq, Addr.mk.injEq]; omega)
  exact ⟨World.cell?_setCell_same _ _ _ h.b0, by rw [ot _ (by omega)]; exact h.b1, by rw [ot _ (by omega)]; exact h.b2, fun i hi => by rw [World.frozen?_setCell]; exact h.fz i hi⟩
theorem TuB.setAt {u : World} {B : Nat} {v : Value} {z : Int} {f : Bool} (h : TuB u B v z f) (z' : Int) : TuB (u.setCell ⟨B, 1, none⟩ (.int .i64 z')) B v z' f := by
  have ot : ∀ j, j ≠ 1 → (u.setCell ⟨B, 1, none⟩ (.int .i64 z')).cell? ⟨B, j, none⟩ = u.cell? ⟨B, j, none⟩ := fun j e => World.cell?_setCell_other _ _ _ _ (by simp only [ne_eq, Addr.mk.injEq]; omega)
  exact ⟨by rw [ot _ (by omega)]; exact h.b0, World.cell?_setCell_same _ _ _ h.b1, by rw [ot _ (by omega)]; exact h.b2, fun i hi => by rw [World.frozen?_setCell]; exact h.fz i hi⟩
theorem TuB.setF {u : World} {B : Nat} {v : Value} {z : Int} {f : Bool} (h : TuB u B v z f) (f' : Bool) : TuB (u.setCell ⟨B, 2, none⟩ (.bool f')) B v z f' := by
  have ot : ∀ j, j ≠ 2 → (u.setCell ⟨B, 2, none⟩ (.bool f')).cell? ⟨B, j, none⟩ = u.cell? ⟨B, j, none⟩ := fun j e => World.cell?_setCell_other _ _ _ _ (by simp only [ne_eq, Addr.mk.injEq]; omega)
  exact ⟨by rw [ot _ (by omega)]; exact h.b0, by rw [ot _ (by omega)]; exact h.b1, World.cell?_setCell_same _ _ _ h.b2, fun i hi => by rw [World.frozen?_setCell]; exact h.fz i hi⟩
theorem TuB.new (w : World) (v : Value) (z : Int) (f : Bool) : TuB (w.alloc (.cells #[v, .int .i64 z, .bool f] 34)) w.heap.size v z f :=
  ⟨World.cell?_alloc_at _ _ _ _ rfl, World.cell?_alloc_at _ _ _ _ rfl, World.cell?_alloc_at _ _ _ _ rfl, fun i hi => World.frozen?_alloc_at _ _ _ _ rfl⟩
set_option maxHeartbeats 2000000 in
set_option maxRecDepth 100000 in
/-- giveTurn: At and Fresh alone turn. -/
theorem qgiveTurnOf {w : World} {B : Nat} {a : Option Addr} {n c : Nat} {z : Int} {f : Bool} (h : TuB w B (.slice a n c) z f) (p : Nat) (hp : p ≤ 9223372036854775807) : Calls Try.prog 44 #[.pointer (some ⟨B, 0, none⟩), .int .i64 p] w fun e w' => (∃ x, e = .returned x) ∧ TuB w' B (.slice a n c) ((if n ≤ p then 0 else p : Nat) : Int) false ∧ w.grownBy w' (some B) := by
  obtain ⟨b0, b1, b2, bf⟩ := h
  have f1 := bf 1 (by omega)
  have f2 := bf 2 (by omega)
  have HT := Hid.mkT (fun (q : Int) => ((TuB.mk b0 b1 b2 bf).setAt q).setF false)
  have HG : Hid (∀ q : Int, w.grownBy ((w.setCell ⟨B, 1, none⟩ (.int .i64 q)).setCell ⟨B, 2, none⟩ (.bool false)) (some B)) := fun q => grow_setCells w B 1 [.int .i64 q, .bool false]
  clear bf
  by_cases hn : n ≤ p
  · have hnz : (n : Int) ≤ (p : Int) := by omega
    have HT0 := Hid.mkT (HT.out 0)
    clear HT
    go_enter Try.func44, Try.ntmps44
    go_wp2
    refine ⟨rfl, _, results_none rfl _ _ _, ?_⟩
    exact ⟨⟨_, rfl⟩, by first | exact HT0.out | (rw [if_pos hn]; exact HT0.out), HG.out _⟩
  · have hnz : ¬ (n : Int) ≤ (p : Int) := by omega
    have HT0 := Hid.mkT (HT.out p)
    clear HT
    go_enter Try.func44, Try.ntmps44
    go_wp2
    refine ⟨rfl, _, results_none rfl _ _ _, ?_⟩
    exact ⟨⟨_, rfl⟩, by first | exact HT0.out | (rw [if_neg hn]; exact HT0.out), HG.out _⟩
end Go.Proofs.Ytelhjdplghpnbaa
