import Derived.Test.YthfnbcicpcbgjaaKrw
import Derived.Test.YthfnbcicpcbgjaaKti
import Derived.Stop.RegionWithIn
/-! keydir: All. -/
namespace Go.Proofs.Ythfnbcicpcbgjaa
open Go.RowKit Go.Shelf Plain
attribute [local go_sem] Oper.semAt_some
set_option linter.unusedVariables false

/-- What All captures: the dir, lo, hi. -/
structure CapAt (w : World) (b : Nat) (d : Value) (lo hi : ByteArray) : Prop where
  c0 : w.cell? ⟨b, 0, none⟩ = some d
  c1 : w.cell? ⟨b + 1, 0, none⟩ = some (.string lo)
  c2 : w.cell? ⟨b + 2, 0, none⟩ = some (.string hi)

set_option maxHeartbeats 1000000 in
theorem allIn (n : Nat) (p0 : Option Addr) (lo hi : ByteArray) (w : World) :
    CallsIn Fence.wide n Try.prog 24 #[.pointer p0, .string lo, .string hi] w fun e w' => e = .returned (.func (.func 40) #[] #[.pointer (some ⟨w.heap.size, 0, none⟩), .pointer (some ⟨w.heap.size + 1, 0, none⟩), .pointer (some ⟨w.heap.size + 2, 0, none⟩)]) ∧ w' = ((w.alloc (.cells #[.pointer p0] 29)).alloc (.cells #[.string lo] 9)).alloc (.cells #[.string hi] 9) := by
  refine callsIn_of_wp Try.func24 rfl trivial ?_ rfl
  simp only [Try.ntmps24, List.size_toArray, List.length_cons, List.length_nil, Nat.reduceAdd, Nat.reduceSub, Array.replicate_succ, Array.replicate_zero, List.push_toArray, List.append_toArray, List.nil_append, List.cons_append]
  gi_wp2
  go_ret
  exact ⟨rfl, rfl⟩

set_option maxHeartbeats 2000000 in
theorem all1In (da : Option Addr) (n : Nat) (p : Option Addr) (lo hi : ByteArray) (hlo : lo.size ≤ maxLen) (hhi : hi.size ≤ maxLen) (l n₀ B d : Nat) (ks : List Ke) (J Jx : List Ke → World → Prop)
    (hJ : ∀ s W W', J s W → Below W.heap.size W W' → J s W')
    (hY : ∀ pre x W, J pre W → pre.length < (rngL lo hi ks).length → YieldAt Fence.wide (n - 1) Try.prog l (kencs x) W fun e W' =>
      (e = .returned (.bool true) ∧ J (pre ++ [x]) W' ∧ Below n₀ W W') ∨ (e = .returned (.bool false) ∧ Jx (pre ++ [x]) W'))
    (W : World) (hc : CapAt W B (.pointer da) lo hi) (hTop : Calls Try.prog 35 #[.pointer da] W.drew fun e w' => e = .returned (.pointer p) ∧ w' = W.drew) (hT : TreeAt (fun g => g < n₀) W d p ks) (hs : Srt ks) (hn : n₀ ≤ W.heap.size) (h0 : J [] W) :
    CallsIn Fence.wide n Try.prog 40 #[.func (.yield l) #[] #[], .pointer (some ⟨B, 0, none⟩), .pointer (some ⟨B + 1, 0, none⟩), .pointer (some ⟨B + 2, 0, none⟩)] W fun e W' => (∃ v, e = .returned v) ∧
      ((∃ ys, ys = rngL lo hi ks ∧ J ys W') ∨ (∃ pre, pre <+: rngL lo hi ks ∧ Jx pre W')) := by
  have hdd : ∀ k : Nat, (Fence.wide.depth.isSome = true → 1 ≤ k) := fun k h => by cases h
  have hJd : J [] W.drew := hJ _ _ _ h0 (Below.drew (Below.refl _ _))
  have HP : Hid (CallsIn Fence.wide (n - 1) Try.prog 41 #[.pointer p, .string lo, .string hi, .func (.yield l) #[] #[]] W.drew fun e W' =>
        ∃ b, e = .returned (.bool b) ∧ (J (rngL lo hi ks) W' ∨ ∃ q, q <+: rngL lo hi ks ∧ Jx q W')) := (walkIn lo hi hlo hhi l n₀ (rngL lo hi ks).length J Jx hJ (fun m pre x W hj hl => yieldAny rfl m (hY pre x W hj hl)) d (n - 1) p ks [] W.drew (hT.later (Below.drew (Below.refl _ _))) hs hn hJd (by simp)).mono fun e W' h => h.elim (fun ⟨h1, h2, _⟩ => ⟨true, h1, .inl (by simpa using h2)⟩) (fun ⟨h1, q, hq, h2⟩ => ⟨false, h1, .inr ⟨q, hq, by simpa using h2⟩⟩)
  have HTO : Hid (CallsIn Fence.wide (n - 1) Try.prog 35 #[.pointer da] W.drew fun e w' => e = .returned (.pointer p) ∧ w' = W.drew) := callsIn_wide.2 hTop
  clear hTop
  obtain ⟨c0, c1, c2⟩ := hc
  refine callsIn_of_wp Try.func40 rfl trivial ?_ rfl
  simp only [Try.ntmps40, List.size_toArray, List.length_cons, List.length_nil, Nat.reduceAdd, Nat.reduceSub, Array.replicate_succ, Array.replicate_zero, List.push_toArray, List.append_toArray, List.nil_append, List.cons_append]
  gi_wp2_with fail
  gi_region_with (first
    | (refine ⟨trivial, hdd _, ?_⟩; refine HTO.out.mono ?_; clear HTO; rintro e w1 ⟨rfl, rfl⟩)
    | (refine ⟨trivial, hdd _, ?_⟩; refine HP.out.mono ?_; clear HP; rintro e W1 ⟨b, rfl, hF⟩))
  all_goals
    go_end0
    exact ⟨⟨_, rfl⟩, hF.elim (fun h => .inl ⟨_, rfl, h⟩) .inr⟩

/-- All is an iterator that gives the keys of the tree that the dir holds when it is gone through. -/
theorem allStops (da : Option Addr) (n : Nat) (p : Option Addr) (lo hi : ByteArray) (hlo : lo.size ≤ maxLen) (hhi : hi.size ≤ maxLen) (n₀ B d : Nat) (ks : List Ke) (w : World) (hn₀ : n₀ ≤ w.heap.size) (hB : B + 2 < w.heap.size) (hc : CapAt w B (.pointer da) lo hi)
    (hTop : ∀ u, Below w.heap.size w u → Calls Try.prog 35 #[.pointer da] u fun e w' => e = .returned (.pointer p) ∧ w' = u) (hT : TreeAt (fun g => g < n₀) w d p ks) (hs : Srt ks) :
    SeqStopsK Fence.wide n Try.prog 40 #[.pointer (some ⟨B, 0, none⟩), .pointer (some ⟨B + 1, 0, none⟩), .pointer (some ⟨B + 2, 0, none⟩)] kencs (Below n₀) (fun ys => ys = rngL lo hi ks) (fun pre => pre <+: rngL lo hi ks) (rngL lo hi ks).length w := fun l J Jx W hW hJ _ hY h0 =>
  all1In da n p lo hi hlo hhi l n₀ B d ks J Jx (fun s W W' h hb => hJ s W W' none h (below_grow hb none) (fun r e => by cases e)) hY W
    ⟨(hW.cell (p := ⟨B, 0, none⟩) (by show B < _; omega)).trans hc.c0, (hW.cell (p := ⟨B + 1, 0, none⟩) (by show B + 1 < _; omega)).trans hc.c1, (hW.cell (p := ⟨B + 2, 0, none⟩) (by show B + 2 < _; omega)).trans hc.c2⟩
    (hTop _ (Below.drew hW)) (hT.later hW) hs (Nat.le_trans hn₀ hW.size) h0
end Go.Proofs.Ythfnbcicpcbgjaa
