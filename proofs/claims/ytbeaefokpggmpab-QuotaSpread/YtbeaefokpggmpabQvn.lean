import Derived.Test.YtbeaefokpggmpabQvm
import Derived.RangeFuncBox
import Derived.RangeFuncLeaves
import Derived.RangeFuncNested
import Derived.Shelf.Abstract
import Derived.OwnWalkIn
import Derived.TacticsInMore
import Derived.LoopNIn
import Derived.LoopIn
import Derived.Maps.AppendAt
/-! quota: a slice gone through, and got together again. -/
namespace Go.Proofs.Ytbeaefokpggmpab
open Go.RowKit Go.Shelf Plain
attribute [local go_sem] Oper.semAt_some
set_option linter.unusedVariables false
set_option linter.unusedSimpArgs false

/-- A number that has room in 64 bits. -/
abbrev Z64 : Type := { x : Int // -9223372036854775808 ≤ x ∧ x ≤ 9223372036854775807 }
def zL (l : List Z64) : List Int := l.map (·.1)
theorem zL_app (l k : List Z64) : zL (l ++ k) = zL l ++ zL k := by unfold zL; rw [List.map_append]
theorem zL_one (x : Z64) : zL [x] = [x.1] := rfl
theorem zL_len (l : List Z64) : (zL l).length = l.length := by unfold zL; rw [List.length_map]
def zArg (x : Z64) : Array Value := #[.int .i64 x.1]
def upF (f : Nat → Z64) (k : Nat) : List Z64 := (List.range k).map f
theorem upF_succ (f : Nat → Z64) (k : Nat) : upF f (k + 1) = upF f k ++ [f k] := by simp [upF, List.range_succ]
theorem upF_length (f : Nat → Z64) (k : Nat) : (upF f k).length = k := by simp [upF]

set_option maxRecDepth 100000 in
set_option maxHeartbeats 2000000 in
theorem values1In (F : Fence) (n : Nat) (h7 : F.fn 38) (hro : F.round = none) (hn : 1 ≤ n) (l Bs n₀ b off len cap : Nat) (f : Nat → Z64) (hreach : len ≤ 64) (hb : b < n₀) (J Jx : List Z64 → World → Prop)
    (hY : ∀ pre x W, J pre W → pre.length < len → YieldAt F (n - 1) Try.prog l (zArg x) W fun e W' =>
      (e = .returned (.bool true) ∧ J (pre ++ [x]) W' ∧ Below n₀ W W') ∨ (e = .returned (.bool false) ∧ Jx (pre ++ [x]) W'))
    (W : World) (hBs : W.cell? ⟨Bs, 0, none⟩ = some (.slice (some ⟨b, off, none⟩) len cap)) (hc : ∀ j, j < len → W.cell? ⟨b, off + j, none⟩ = some (.int .i64 (f j).1)) (h0 : J [] W) :
    CallsIn F n Try.prog 38 #[.func (.yield l) #[] #[], .pointer (some ⟨Bs, 0, none⟩)] W fun e W' => (∃ v, e = .returned v) ∧
      (J (upF f len) W' ∨ (∃ pre, Jx pre W')) := by
  refine callsIn_of_wp Try.func38 rfl h7 ?_ hro
  simp only [Try.ntmps38, List.size_toArray, List.length_cons, List.length_nil, Nat.reduceAdd, Nat.reduceSub, Array.replicate_succ, Array.replicate_zero, List.push_toArray, List.append_toArray, List.nil_append, List.cons_append]
  gi_wp2
  gi_loopw [7] (fun i wr => ∃ k : Nat, k ≤ len ∧ i = .int .i64 k ∧ J (upF f k) wr ∧ Below n₀ W wr)
    (fun i _ => len - (intOf i).toNat)
  case atStart => exact ⟨0, Nat.zero_le _, rfl, h0, Below.refl _ _⟩
  case round =>
    obtain ⟨k, hk, rfl, hJs, hnx⟩ := hrel
    by_cases hlt : k < len
    · obtain ⟨fn, tmps, assign, body, hy, hR⟩ := hY _ (f k) wr hJs (by rw [upF_length]; exact hlt)
      have hcx : wr.cell? ⟨b, off + k, none⟩ = some (.int .i64 (f k).1) := (hnx.cell (p := ⟨b, off + k, none⟩) hb).trans (hc k hlt)
      have HJ : Hid (J (upF f k) wr) := hJs
      have HU : Hid (upF f (k + 1) = upF f k ++ [f k]) := upF_succ f k
      unfold zArg at hy
      gi_wp2
      refine hR.mono ?_
      rintro e W3 (⟨rfl, hJ3, hk3⟩ | ⟨rfl, hJx3⟩)
      · gi_wp2
        go_roundw
        case rel => exact ⟨k + 1, by omega, by simp, by rw [HU.out]; exact hJ3, hnx.trans hk3⟩
        case measure => simp [intOf]; omega
      · gi_wp2
        refine bodyPost_ret (results_none rfl _ _ _) rfl ?_
        exact ⟨⟨_, rfl⟩, .inr ⟨_, hJx3⟩⟩
    · obtain rfl : k = len := by omega
      gi_wp2
      go_end0
      exact ⟨⟨_, rfl⟩, .inl hJs⟩
set_option maxRecDepth 100000 in
set_option maxHeartbeats 1000000 in
theorem values1NilIn (F : Fence) (n : Nat) (h7 : F.fn 38) (hro : F.round = none) (l Bs : Nat) (a : Option Addr) (cap : Nat) (J : List Z64 → World → Prop) (W : World) (hBs : W.cell? ⟨Bs, 0, none⟩ = some (.slice a 0 cap)) (h0 : J [] W) :
    CallsIn F n Try.prog 38 #[.func (.yield l) #[] #[], .pointer (some ⟨Bs, 0, none⟩)] W fun e W' => (∃ v, e = .returned v) ∧ J [] W' := by
  refine callsIn_of_wp Try.func38 rfl h7 ?_ hro
  simp only [Try.ntmps38, List.size_toArray, List.length_cons, List.length_nil, Nat.reduceAdd, Nat.reduceSub, Array.replicate_succ, Array.replicate_zero, List.push_toArray, List.append_toArray, List.nil_append, List.cons_append]
  gi_wp2
  gi_loopw [7] (fun i wr => i = .int .i64 0 ∧ J [] wr) (fun _ _ => 0)
  case atStart => exact ⟨rfl, h0⟩
  case round =>
    obtain ⟨rfl, hJs⟩ := hrel
    gi_wp2
    go_end0
    exact ⟨⟨_, rfl⟩, hJs⟩
/-- All of l, in order. -/
theorem valuesStops (F : Fence) (n : Nat) (h7 : F.fn 38) (hro : F.round = none) (hn : 1 ≤ n) (Bs n₀ : Nat) (v : Value) (l : List Int) (hreach : l.length ≤ 64) (w : World) (hBs : Bs < w.heap.size) (hn₀ : n₀ ≤ w.heap.size)
    (hc : w.cell? ⟨Bs, 0, none⟩ = some v) (hI : NumsAt w v l) (hlow : ∀ a len cap, v = .slice (some a) len cap → l ≠ [] → a.block < n₀) :
    SeqStopsK F n Try.prog 38 #[.pointer (some ⟨Bs, 0, none⟩)] zArg (Below n₀) (fun ys => zL ys = l) (fun _ => True) l.length w := fun lp J Jx W hW _ _ hY h0 => by
  have hc' := (hW.cell (p := ⟨Bs, 0, none⟩) hBs).trans hc
  obtain ⟨a, cap, rfl, h1, h2, h3, h4⟩ := hI
  by_cases hnil : l = []
  · subst hnil
    exact (values1NilIn F n h7 hro lp Bs a cap J W hc' h0).mono fun e W' ⟨he, hj⟩ => ⟨he, .inl ⟨[], rfl, hj⟩⟩
  · obtain ⟨b, off, rfl, h5⟩ := h4 hnil
    have hz : ∀ j, -9223372036854775808 ≤ l.getD j 0 ∧ l.getD j 0 ≤ 9223372036854775807 := fun j => by
      by_cases hj : j < l.length
      · exact h3 _ (getD_mem hj)
      · rw [List.getD_eq_getElem?_getD, List.getElem?_eq_none (by omega)]; simp
    have hcs : ∀ j, j < l.length → W.cell? ⟨b, off + j, none⟩ = some (.int .i64 ((⟨l.getD j 0, hz j⟩ : Z64)).1) := fun j hj => by
      rw [hW.cell (p := ⟨b, off + j, none⟩) (cell_lt (h5 j hj))]; exact h5 j hj
    refine (values1In F n h7 hro hn lp Bs n₀ b off l.length cap (fun j => ⟨l.getD j 0, hz j⟩) hreach (hlow _ _ _ rfl hnil) J Jx hY W hc' hcs h0).mono ?_
    rintro e W' ⟨he, hj | ⟨pre, hj⟩⟩
    · refine ⟨he, .inl ⟨_, ?_, hj⟩⟩
      show zL (upF (fun j => ⟨l.getD j 0, hz j⟩) l.length) = l
      unfold zL upF
      rw [List.map_map]
      apply List.ext_getElem?
      intro i
      by_cases hi : i < l.length
      · simp [hi, List.getD_eq_getElem?_getD]
      · simp [hi]
    · exact ⟨he, .inr ⟨_, trivial, hj⟩⟩
theorem valuesOf (a : Option Addr) (len cap : Nat) (w : World) : Calls Try.prog 28 #[.slice a len cap] w fun e w' => e = .returned (.func (.func 38) #[] #[.pointer (some ⟨w.heap.size, 0, none⟩)]) ∧ w' = w.alloc (.cells #[.slice a len cap] 22) := by
  go_enter Try.func28, Try.ntmps28
  go_wp2
  go_ret
  exact ⟨rfl, rfl⟩
end Go.Proofs.Ytbeaefokpggmpab
