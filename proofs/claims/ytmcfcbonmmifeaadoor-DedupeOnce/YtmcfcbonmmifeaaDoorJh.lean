import Derived.Test.YtmcfcbonmmifeaaDoorJe
import Derived.RangeFuncNested
import Derived.RangeFuncBound
import Derived.RangeFuncCalls
import Derived.RangeFuncLeaves
import Derived.RangeFuncOne
import Derived.Shelf.Abstract
import Derived.Shelf.RegionOpen
import Derived.WalkKit
import Derived.OwnWalkIn
import Derived.TacticsInMore
import Derived.LoopNIn
import Derived.LoopIn
import Derived.Sort.MapsRangeIn
import Derived.RegionIn
import Derived.Laws.IdiomRangeMap
/-! dedupe: the values of the map, by an iterator. -/
namespace Go.Proofs.YtmcfcbonmmifeaaDoor
open Go.RowKit Go.Maps Go.Sort Go.Shelf Plain
attribute [local go_sem] Oper.semAt_some
set_option linter.unusedVariables false
set_option linter.unusedSimpArgs false

/-- What has come so far of a map's values. -/
def Got (L : List Pr) (left : Lit → Bool) (xs : List Pr) : Prop := (xs.map (·.pid)).Nodup ∧ ∀ p, p ∈ xs ↔ (p ∈ L ∧ left (.int .i64 p.pid) = false)
theorem Got.start {L : List Pr} : Got L (has (toQ L)) [] := by
  refine ⟨by simp, fun p => ?_⟩
  constructor
  · intro h; simp at h
  · rintro ⟨h1, h2⟩
    rw [toQ_has] at h2
    exfalso
    cases h3 : lookP L p.pid with
    | some q => rw [h3] at h2; simp at h2
    | none => exact lookP_none h3 p h1 rfl
theorem Got.step {L : List Pr} {left : Lit → Bool} {xs : List Pr} (h : Got L left xs) (hr : Rise L) {p : Pr} (hp : lookP L p.pid = some p) (hl : left (.int .i64 p.pid) = true) : Got L (fun z => left z && !z.sameKey (.int .i64 p.pid)) (xs ++ [p]) := by
  obtain ⟨h1, h2⟩ := h
  refine ⟨?_, fun q => ?_⟩
  · rw [List.map_append, List.nodup_append]
    refine ⟨h1, by simp, ?_⟩
    intro a ha b hb e
    simp at hb
    obtain ⟨y, hy, rfl⟩ := List.mem_map.mp ha
    have := ((h2 y).mp hy).2
    rw [e, hb, hl] at this
    cases this
  · rw [List.mem_append, List.mem_singleton, h2 q]
    simp only [same_int]
    constructor
    · rintro (⟨a, b⟩ | rfl)
      · exact ⟨a, by rw [b]; rfl⟩
      · exact ⟨(lookP_some hp).1, by simp⟩
    · rintro ⟨a, b⟩
      by_cases e : q.pid = p.pid
      · right
        have := lookP_of hr a
        rw [e, hp] at this
        injection this with this
        exact this.symm
      · left
        refine ⟨a, ?_⟩
        have e2 : (q.pid == p.pid) = false := by simpa using e
        rw [e2] at b
        simpa using b
theorem Got.perm {L : List Pr} {left : Lit → Bool} {xs : List Pr} (h : Got L left xs) (hr : Rise L) (hl : ∀ z, left z = false) : xs.Perm L := by
  obtain ⟨h1, h2⟩ := h
  have n1 : xs.Nodup := by
    rw [List.nodup_iff_pairwise_ne] at h1 ⊢
    rw [List.pairwise_map] at h1
    exact h1.imp fun h e => h (by rw [e])
  have n2 : L.Nodup := by
    rw [List.nodup_iff_pairwise_ne]
    exact hr.imp fun h e => by rw [e] at h; omega
  exact (List.perm_ext_iff_of_nodup n1 n2).mpr fun p => by rw [h2 p, hl]; simp
set_option maxRecDepth 100000 in
theorem keyInt_inv {key : Value} {kl : Lit} (h : keyOf Tryd.prog 2 key = some kl) : ∃ z : Int, key = .int .i64 z ∧ kl = .int .i64 z := by
  have hu := Tryd.underlying2
  unfold keyOf at h
  rw [hu] at h
  cases key <;> simp [mapKey] at h
  rename_i k z
  by_cases e : k = .i64
  · subst e
    exact ⟨z, rfl, by simp at h; exact h.2.symm⟩
  · simp [e] at h
set_option maxRecDepth 100000 in
set_option maxHeartbeats 2000000 in
theorem valuesIn (F : Fence) (n : Nat) (h8 : F.fn 27) (hro : F.round = none) (hn : 1 ≤ n) (l Bm b : Nat) (L : List Pr) (hr : Rise L) (J Jx : List Pr → World → Prop)
    (hY : ∀ pre x W, J pre W → pre.length < L.length → YieldAt F (n - 1) Tryd.prog l #[x.agg] W fun e W' =>
      (e = .returned (.bool true) ∧ J (pre ++ [x]) W' ∧ KeepsWalks W W') ∨ (e = .returned (.bool false) ∧ Jx (pre ++ [x]) W'))
    (W : World) (hJ : AbidesFrom W.heap.size J) (hm : W.cell? ⟨Bm, 0, none⟩ = some (.map (some b))) (hown : MapQ W b L) (h0 : J [] W) :
    CallsIn F n Tryd.prog 27 #[.func (.yield l) #[] #[], .pointer (some ⟨Bm, 0, none⟩)] W fun e W' => (∃ v, e = .returned v) ∧
      ((∃ xs, xs.Perm L ∧ J xs W') ∨ (∃ pre, True ∧ Jx pre W')) := by
  refine callsIn_of_wp Tryd.func27 rfl h8 ?_ hro
  simp only [Tryd.ntmps27, List.size_toArray, List.length_cons, List.length_nil, Nat.reduceAdd, Nat.reduceSub, Array.replicate_succ, Array.replicate_zero, List.push_toArray, List.append_toArray, List.nil_append, List.cons_append]
  gi_wp2_with (first
    | (gi_at_range; refine wpListIn_range_own _ rfl _ 48 rfl 2 43 keyed2 Tryd.underlying48 _ b L.length _ rfl hown ?_; intro w0 hrg0 hg0 hs0)
    | gi_in)
  go_frame
  gi_loopw [4] (fun _ wr => ∃ (left : Lit → Bool) (cnt : Nat) (ps : List Pr), wr.ranges Tryd.prog 2 Rq b W.heap.size L.length (toQ L) left cnt ∧ ps.length + cnt ≤ L.length ∧ Got L left ps ∧ J ps wr)
    (fun _ wr => wr.rangeLeft b W.heap.size)
  case atStart =>
    exact ⟨_, _, [], hrg0, by simp [toQ_size], Got.start, hJ [] W w0 none h0 hg0 (fun r e => by cases e)⟩
  case round =>
    obtain ⟨left, cnt, ps, hrg, hcs, hC, hJs⟩ := hrel
    gi_wp2_with (first
      | (gi_at_next; refine wpListIn_next_ranges _ rfl _ rfl 2 keyed2 Rq (Value.int .i64) Pr.agg (fun key kl hk => by obtain ⟨z, hz, _⟩ := keyInt_inv hk; exact ⟨z, hz⟩) (fun v y hv => by obtain ⟨p, hp, _⟩ := Rq_inv hv; exact ⟨p, hp⟩) b W.heap.size L.length _ _ _ rfl hrg ?_ ?_)
      | gi_in)
    · intro hc0 hl0
      gi_wp2
      go_end0
      exact ⟨⟨_, rfl⟩, .inl ⟨ps, hC.perm hr hl0, hJs⟩⟩
    · intro x c kl yd yp w2 cnt2 hkey hlk hv hat hrg2 hlt hg2 hs2 hen
      obtain ⟨x', ex, rfl⟩ := keyInt_inv hkey
      obtain rfl : x = x' := by injection ex
      obtain ⟨p, ep, ey⟩ := Rq_inv hv
      obtain rfl : yd = p.d := (Prod.mk.inj ey).1
      obtain rfl : c = p := by
        cases c; cases p
        simp [Pr.agg] at ep
        simp [ep]
      have hlp : lookP L x = some c := by
        have h9 := hat .nil
        rw [toQ_at] at h9
        cases h8 : lookP L x with
        | none => rw [h8] at h9; simp [Pr.d] at h9
        | some q => rw [h8] at h9; rw [Pr.d_inj h9]
      obtain rfl : c.pid = x := (lookP_some hlp).2
      have hJ2 : J ps w2 := hJ _ wr w2 (some W.heap.size) hJs hg2 (fun r e => by cases e; exact ⟨Nat.le_refl _, hrg.iter_walk⟩)
      have hC2 := hC.step hr hlp hlk
      have hJ3 : J ps (w2.alloc (.cells #[.int .i64 c.pid, .int .i64 c.seq, .int .i64 c.off] 43)) := hJ _ w2 _ none hJ2 (World.grownBy_alloc _ _ none) (fun r e => by cases e)
      have hrg2a : (w2.alloc (.cells #[.int .i64 c.pid, .int .i64 c.seq, .int .i64 c.off] 43)).ranges Tryd.prog 2 Rq b W.heap.size L.length (toQ L) (fun z => left z && !z.sameKey (.int .i64 c.pid)) cnt2 := hrg2.of_walks (KeepsWalks.alloc _ _)
      obtain ⟨fn, tmps, assign, body, hy, hR⟩ := hY ps c _ hJ3 (by omega)
      have HC2 : Hid (Got L (fun z => left z && !z.sameKey (.int .i64 c.pid)) (ps ++ [c])) := hC2
      clear hs2 hC2 hat hv hkey hlp
      obtain ⟨pid, seq, off⟩ := c
      simp only [Pr.agg] at hy hen hR
      gi_wp2
      refine hR.mono ?_
      rintro e W3 (⟨rfl, hJ4, hk3⟩ | ⟨rfl, hJx3⟩)
      · gi_wp2
        have hrg3 := hrg2a.of_walks hk3
        go_roundw
        case rel => exact ⟨_, cnt2, _, hrg3, by simp; omega, HC2.out, hJ4⟩
        case measure => rw [hrg3.left_eq, hrg.left_eq]; exact hlt
      · gi_wp2
        refine bodyPost_ret (results_none rfl _ _ _) rfl ?_
        exact ⟨⟨_, rfl⟩, .inr ⟨_, trivial, hJx3⟩⟩
theorem valuesStops (F : Fence) (n : Nat) (h8 : F.fn 27) (hro : F.round = none) (hn : 1 ≤ n) (Bm b : Nat) (L : List Pr) (hr : Rise L) (w : World) (hBm : Bm < w.heap.size) (hm : w.cell? ⟨Bm, 0, none⟩ = some (.map (some b))) (hown : MapQ w b L) :
    SeqStopsK F n Tryd.prog 27 #[.pointer (some ⟨Bm, 0, none⟩)] (fun x : Pr => #[x.agg]) KeepsWalks (fun xs => xs.Perm L) (fun _ => True) L.length w := fun l J Jx W hW hJ hJx hY h0 =>
  valuesIn F n h8 hro hn l Bm b L hr J Jx hY W hJ ((hW.cell (p := ⟨Bm, 0, none⟩) hBm).trans hm) (hown.of_block (hW.block b hown.lt)) h0
set_option maxRecDepth 100000 in
set_option maxHeartbeats 1000000 in
theorem valuesNilIn (F : Fence) (n : Nat) (hf : F.fn 27) (hro : F.round = none) (l Bm : Nat) (J : List Pr → World → Prop) (W : World) (hJ : AbidesFrom W.heap.size J) (hm : W.cell? ⟨Bm, 0, none⟩ = some (.map none)) (h0 : J [] W) :
    CallsIn F n Tryd.prog 27 #[.func (.yield l) #[] #[], .pointer (some ⟨Bm, 0, none⟩)] W fun e W' => (∃ v, e = .returned v) ∧ J [] W' := by
  refine callsIn_of_wp Tryd.func27 rfl hf ?_ hro
  simp only [Tryd.ntmps27, List.size_toArray, List.length_cons, List.length_nil, Nat.reduceAdd, Nat.reduceSub, Array.replicate_succ, Array.replicate_zero, List.push_toArray, List.append_toArray, List.nil_append, List.cons_append]
  have hrg := run_range_nilMap (P := Tryd.prog) W 48 2 43 Tryd.underlying48
  have hnx : ∀ ty, (Instr.next (.pointer (some ⟨W.heap.size, 0, none⟩)) false ty).run Tryd.prog (W.alloc (.mapIter none 0 #[] 0)) = _ := fun ty => run_next_nilMap _ ty 0 0 #[]
  gi_wp2
  refine wpIn_loop_rounds 1 ?_
  rw [roundsIn_succ]
  gi_wp2
  go_end0
  exact ⟨⟨_, rfl⟩, hJ [] W _ none h0 (World.grownBy_alloc W _ none) (fun r e => by cases e)⟩
theorem valuesNil (F : Fence) (n : Nat) (hf : F.fn 27) (hro : F.round = none) (Bm : Nat) (w : World) (hBm : Bm < w.heap.size) (hm : w.cell? ⟨Bm, 0, none⟩ = some (.map none)) :
    SeqStopsK F n Tryd.prog 27 #[.pointer (some ⟨Bm, 0, none⟩)] (fun x : Pr => #[x.agg]) KeepsWalks (fun xs => xs.Perm []) (fun _ => True) 0 w := fun l J Jx W hW hJ hJx hY h0 =>
  (valuesNilIn F n hf hro l Bm J W hJ ((hW.cell (p := ⟨Bm, 0, none⟩) hBm).trans hm) h0).mono fun _ _ ⟨he, hj⟩ => ⟨he, .inl ⟨[], List.Perm.refl _, hj⟩⟩
/-- The values of a table's map. -/
theorem valuesO (F : Fence) (n : Nat) (hf : F.fn 27) (hro : F.round = none) (hn : 1 ≤ n) (Bm : Nat) (m : Option Nat) (L : List Pr) (hr : Rise L) (w : World) (hBm : Bm < w.heap.size) (hm : w.cell? ⟨Bm, 0, none⟩ = some (.map m)) (hown : MapO w m L) :
    SeqStopsK F n Tryd.prog 27 #[.pointer (some ⟨Bm, 0, none⟩)] (fun x : Pr => #[x.agg]) KeepsWalks (fun xs => xs.Perm L) (fun _ => True) L.length w := by
  rcases hown with ⟨rfl, rfl⟩ | ⟨b, rfl, h⟩
  · exact valuesNil F n hf hro Bm w hBm hm
  · exact valuesStops F n hf hro hn Bm b L hr w hBm hm h
end Go.Proofs.YtmcfcbonmmifeaaDoor
