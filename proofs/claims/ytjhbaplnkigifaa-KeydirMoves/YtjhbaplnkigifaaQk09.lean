import Derived.Test.YtjhbaplnkigifaaQk08
import Derived.Test.YtjhbaplnkigifaaQk06
import Derived.Stop.RegionWithIn
import Derived.Test.YtjhbaplnkigifaaQk07
import Derived.RangeFuncBox
import Derived.Maps.AppendAt
/-! keydir: All. -/
namespace Go.Proofs.Ytjhbaplnkigifaa
open Go.RowKit Go.Shelf Plain
attribute [local go_sem] Oper.semAt_some
set_option linter.unusedVariables false

/-- What All captures: the dir, lo, hi. -/
structure CapAt (w : World) (b : Nat) (d : Value) (lo hi : ByteArray) : Prop where
  c0 : w.cell? ⟨b, 0, none⟩ = some d
  c1 : w.cell? ⟨b + 1, 0, none⟩ = some (.string lo)
  c2 : w.cell? ⟨b + 2, 0, none⟩ = some (.string hi)

set_option maxHeartbeats 1000000 in
theorem allIn (n : Nat) (p0 : Option Addr) (lo hi : ByteArray) (w : World) :
    CallsIn Fence.wide n Try.prog 49 #[.pointer p0, .string lo, .string hi] w fun e w' => e = .returned (.func (.func 56) #[] #[.pointer (some ⟨w.heap.size, 0, none⟩), .pointer (some ⟨w.heap.size + 1, 0, none⟩), .pointer (some ⟨w.heap.size + 2, 0, none⟩)]) ∧ w' = ((w.alloc (.cells #[.pointer p0] 23)).alloc (.cells #[.string lo] 9)).alloc (.cells #[.string hi] 9) := by
  refine callsIn_of_wp Try.func49 rfl trivial ?_ rfl
  simp only [Try.ntmps49, List.size_toArray, List.length_cons, List.length_nil, Nat.reduceAdd, Nat.reduceSub, Array.replicate_succ, Array.replicate_zero, List.push_toArray, List.append_toArray, List.nil_append, List.cons_append]
  gi_wp2
  go_ret
  exact ⟨rfl, rfl⟩

set_option maxHeartbeats 2000000 in
theorem all1In (da : Option Addr) (n : Nat) (p : Option Addr) (lo hi : ByteArray) (hlo : lo.size ≤ maxLen) (hhi : hi.size ≤ maxLen) (l n₀ B d : Nat) (ks : List Ke) (J Jx : List Ke → World → Prop)
    (hJ : ∀ s W W', J s W → Below W.heap.size W W' → J s W')
    (hY : ∀ pre x W, J pre W → pre.length < (rngL lo hi ks).length → YieldAt Fence.wide (n - 1) Try.prog l (kencs x) W fun e W' =>
      (e = .returned (.bool true) ∧ J (pre ++ [x]) W' ∧ Below n₀ W W') ∨ (e = .returned (.bool false) ∧ Jx (pre ++ [x]) W'))
    (W : World) (hc : CapAt W B (.pointer da) lo hi) (hTop : Calls Try.prog 43 #[.pointer da] W.drew fun e w' => e = .returned (.pointer p) ∧ w' = W.drew) (hT : TreeAt (fun g => g < n₀) W d p ks) (hs : Srt ks) (hn : n₀ ≤ W.heap.size) (h0 : J [] W) :
    CallsIn Fence.wide n Try.prog 56 #[.func (.yield l) #[] #[], .pointer (some ⟨B, 0, none⟩), .pointer (some ⟨B + 1, 0, none⟩), .pointer (some ⟨B + 2, 0, none⟩)] W fun e W' => (∃ v, e = .returned v) ∧
      ((∃ ys, ys = rngL lo hi ks ∧ J ys W') ∨ (∃ pre, pre <+: rngL lo hi ks ∧ Jx pre W')) := by
  have hdd : ∀ k : Nat, (Fence.wide.depth.isSome = true → 1 ≤ k) := fun k h => by cases h
  have hJd : J [] W.drew := hJ _ _ _ h0 (Below.drew (Below.refl _ _))
  have HP : Hid (CallsIn Fence.wide (n - 1) Try.prog 57 #[.pointer p, .string lo, .string hi, .func (.yield l) #[] #[]] W.drew fun e W' =>
        ∃ b, e = .returned (.bool b) ∧ (J (rngL lo hi ks) W' ∨ ∃ q, q <+: rngL lo hi ks ∧ Jx q W')) := (walkIn lo hi hlo hhi l n₀ (rngL lo hi ks).length J Jx hJ (fun m pre x W hj hl => yieldAny rfl m (hY pre x W hj hl)) d (n - 1) p ks [] W.drew (hT.later (Below.drew (Below.refl _ _))) hs hn hJd (by simp)).mono fun e W' h => h.elim (fun ⟨h1, h2, _⟩ => ⟨true, h1, .inl (by simpa using h2)⟩) (fun ⟨h1, q, hq, h2⟩ => ⟨false, h1, .inr ⟨q, hq, by simpa using h2⟩⟩)
  have HTO : Hid (CallsIn Fence.wide (n - 1) Try.prog 43 #[.pointer da] W.drew fun e w' => e = .returned (.pointer p) ∧ w' = W.drew) := callsIn_wide.2 hTop
  clear hTop
  obtain ⟨c0, c1, c2⟩ := hc
  refine callsIn_of_wp Try.func56 rfl trivial ?_ rfl
  simp only [Try.ntmps56, List.size_toArray, List.length_cons, List.length_nil, Nat.reduceAdd, Nat.reduceSub, Array.replicate_succ, Array.replicate_zero, List.push_toArray, List.append_toArray, List.nil_append, List.cons_append]
  gi_wp2_with fail
  gi_region_with (first
    | (refine ⟨trivial, hdd _, ?_⟩; refine HTO.out.mono ?_; clear HTO; rintro e w1 ⟨rfl, rfl⟩)
    | (refine ⟨trivial, hdd _, ?_⟩; refine HP.out.mono ?_; clear HP; rintro e W1 ⟨b, rfl, hF⟩))
  all_goals
    go_end0
    exact ⟨⟨_, rfl⟩, hF.elim (fun h => .inl ⟨_, rfl, h⟩) .inr⟩

/-- All is an iterator that gives the keys of the tree that the dir holds when it is gone through. -/
theorem allStops (da : Option Addr) (n : Nat) (p : Option Addr) (lo hi : ByteArray) (hlo : lo.size ≤ maxLen) (hhi : hi.size ≤ maxLen) (n₀ B d : Nat) (ks : List Ke) (w : World) (hn₀ : n₀ ≤ w.heap.size) (hB : B + 2 < w.heap.size) (hc : CapAt w B (.pointer da) lo hi)
    (hTop : ∀ u, Below w.heap.size w u → Calls Try.prog 43 #[.pointer da] u fun e w' => e = .returned (.pointer p) ∧ w' = u) (hT : TreeAt (fun g => g < n₀) w d p ks) (hs : Srt ks) :
    SeqStopsK Fence.wide n Try.prog 56 #[.pointer (some ⟨B, 0, none⟩), .pointer (some ⟨B + 1, 0, none⟩), .pointer (some ⟨B + 2, 0, none⟩)] kencs (Below n₀) (fun ys => ys = rngL lo hi ks) (fun pre => pre <+: rngL lo hi ks) (rngL lo hi ks).length w := fun l J Jx W hW hJ _ hY h0 =>
  all1In da n p lo hi hlo hhi l n₀ B d ks J Jx (fun s W W' h hb => hJ s W W' none h (below_grow hb none) (fun r e => by cases e)) hY W
    ⟨(hW.cell (p := ⟨B, 0, none⟩) (by show B < _; omega)).trans hc.c0, (hW.cell (p := ⟨B + 1, 0, none⟩) (by show B + 1 < _; omega)).trans hc.c1, (hW.cell (p := ⟨B + 2, 0, none⟩) (by show B + 2 < _; omega)).trans hc.c2⟩
    (hTop _ (Below.drew hW)) (hT.later hW) hs (Nat.le_trans hn₀ hW.size) h0
end Go.Proofs.Ytjhbaplnkigifaa

/-! keydir: Range. -/
namespace Go.Proofs.Ytjhbaplnkigifaa
open Go.RowKit Go.Shelf Plain
attribute [local go_sem] Oper.semAt_some
set_option linter.unusedVariables false
set_option linter.unusedSimpArgs false

def Ke.r (k : Ke) : Kr := ⟨k.key, k.e.seg, k.e.pos, k.e.size, k.e.off, k.e.time, k.e.tomb⟩

theorem isCells_of {W : World} {a : Addr} {v : Value} {o : Obj} (h : W.cell? a = some v) (ho : W.heap[a.block]? = some o) : o.isCells = true := by
  unfold World.cell? at h
  rw [ho] at h
  cases o <;> first | rfl | (simp at h)
theorem OwnKr.first {w : World} {v : Value} {ts : List Kr} {g : Nat} (h : OwnKr w v ts (some g)) (hne : ts ≠ []) : ∃ u, w.cell? ⟨g, 0, none⟩ = some u := by
  have hp : 0 < ts.length := List.length_pos_iff.mpr hne
  exact ⟨_, by have := (h.at (j := 0) hp).c0; simpa using this⟩
theorem OwnKr.steady {W W' : World} {row : Option Nat} {v : Value} {ts : List Kr} {r : Option Nat} (h : OwnKr W v ts r) (hne : r ≠ none → ts ≠ []) (hg : W.grownBy W' row) (hr : ∀ k, row = some k → ∃ o : Obj, W.heap[k]? = some o ∧ o.isCells = false) : OwnKr W' v ts r := by
  refine h.kept hg ?_
  cases r with
  | none => exact .inl rfl
  | some g =>
    refine .inr fun e => ?_
    obtain ⟨u, hu⟩ := h.first (hne (by simp))
    obtain ⟨o, ho, hc⟩ := hr g e.symm
    have := isCells_of hu ho
    rw [this] at hc
    cases hc
theorem OwnKr.others {W W' : World} {v : Value} {ts : List Kr} {r : Option Nat} (h : OwnKr W v ts r) (hne : r ≠ none → ts ≠ []) (hg : W.grownBy W' r) : KeepsOthers W W' := KeepsOthers.of_grownBy hg fun j o e ho => by
  rw [e] at h
  obtain ⟨u, hu⟩ := h.first (hne (by rw [e]; simp))
  exact isCells_of hu ho
theorem wpListIn_append_k {F : Fence} {n : Nat} (w : World) {ops : Array Oper} {rest : List Oper} {o : Oper} {a : Act} {Q : Exit → Act → World → Prop}
    (hg : o.guard = none) (s x : Operand) (hop : o.op = Op.call { callee := Callee.builtin Builtin.append, args := #[s, x], argTypes := #[43, 43] })
    (v xv : Value) (ts ks : List Kr) (r : Option Nat) (hs : a.eval s = v) (hx : a.eval x = xv) (hown : OwnKr w v ts r) (hsrc : Src Try.prog 7 43 xv ks.length (kcells ks) w) (hlen : ts.length + ks.length ≤ 2199023255552) (hr0 : r ≠ none ∨ 0 < ks.length)
    (hK : ∀ v' w' g, OwnKr w' v' (ts ++ ks) (some g) → w.grownBy w' r → (some g = r ∨ g = w.heap.size) → wpListIn F n Try.prog ops Q rest (a.put o.dst v') w') :
    wpListIn F n Try.prog ops Q (o :: rest) a w := by
  refine wpListIn_plain hg fun K hK' => ?_
  obtain ⟨v', w', g, hrun, r1, r2, r3⟩ := run_append_k w o.type v xv ts ks r hown hsrc hlen hr0
  unfold Oper.wpIn
  refine ⟨?_, ?_⟩
  · simp [Oper.about, hop, resolve, Target.leads, Sem.run_pure]
  · rw [Oper.semAt_plain F _ _ (by rw [hop]; intro c hc'; cases hc')]
    simp [execOp, hop, resolve, invoke, builtin, hs, hx, hrun, Result.andThen]
    exact hK' _ _ (hK v' w' g r1 r2 r3)
theorem src_kr (W : World) (x : Ke) : Src Try.prog 7 43 (.slice (some ⟨W.heap.size, 0, none⟩) 1 1) [x.r].length (kcells [x.r]) (W.alloc (.cells #[.string x.key, .int .i64 x.e.seg, .int .i64 x.e.pos, .int .i64 x.e.size, .int .i64 x.e.off, .int .i64 x.e.time, .bool x.e.tomb] 58)) :=
  Src.ofSlice _ Try.underlying43 _ 1 1 _ (by rfl) (fun j u hj => by
    rw [WideShapes.add_plain, World.cell?_alloc_at _ _ _ _ rfl, Nat.zero_add]
    rw [← hj]; simp [kcells, Kr.cells, Ke.r]) (fun u hu => by
    simp [kcells, Kr.cells, Ke.r] at hu
    rcases hu with rfl | rfl | rfl | rfl | rfl | rfl | rfl <;> rfl)

/-- What Range has got together. -/
structure RgI (w : World) (lim : Int) (pre : List Ke) (W : World) : Prop where
  lim : W.cell? ⟨w.heap.size, 0, none⟩ = some (.int .i64 lim)
  row : ∃ v r, W.cell? ⟨w.heap.size + 1, 0, none⟩ = some v ∧ W.frozen? ⟨w.heap.size + 1, 0, none⟩ = false ∧ OwnKr W v (pre.map Ke.r) r ∧ (r ≠ none → pre.map Ke.r ≠ []) ∧ (∀ g, r = some g → w.heap.size + 5 ≤ g)
  below : Below w.heap.size w W
  sz : w.heap.size + 5 ≤ W.heap.size
theorem RgI.steady {w : World} {lim : Int} {pre : List Ke} {W W' : World} {row : Option Nat} (h : RgI w lim pre W) (hg : W.grownBy W' row) (hr : ∀ k, row = some k → w.heap.size ≤ k ∧ ∃ o : Obj, W.heap[k]? = some o ∧ o.isCells = false) : RgI w lim pre W' := by
  obtain ⟨h1, ⟨v, r, h2, h3, h4, h5, h6⟩, h7, h8⟩ := h
  have hr2 := fun k e => (hr k e).2
  exact ⟨cell_kept h1 hg hr2, ⟨v, r, cell_kept h2 hg hr2, (frozen_kept h2 hg hr2).trans h3, h4.steady h5 hg hr2, h5, h6⟩, h7.grown hg h7.size (fun k e => (hr k e).1), Nat.le_trans h8 hg.size⟩

set_option maxHeartbeats 4000000 in
set_option maxRecDepth 100000 in
theorem rangeG {ks : List Ke} (da : Option Addr) (p : Option Addr) (d : Nat) (lo hi : ByteArray) (lim : Int) (w : World) (ht : TreeAt (fun _ => True) w d p ks) (hs : Srt ks) (hTop : ∀ u, Below w.heap.size w u → Calls Try.prog 43 #[.pointer da] u fun e w' => e = .returned (.pointer p) ∧ w' = u) (hlo : lo.size ≤ maxLen) (hhi : hi.size ≤ maxLen) (hl : ks.length ≤ 2199023255500) :
    Calls Try.prog 27 #[.pointer da, .string lo, .string hi, .int .i64 lim] w fun e w' => ∃ v r, e = .returned v ∧ OwnKr w' v (((rngL lo hi ks).take lim.toNat).map Ke.r) r ∧ (∀ g, r = some g → w.heap.size ≤ g) ∧ Below w.heap.size w w' := by
  have hrl : (rngL lo hi ks).length ≤ 2199023255500 := Nat.le_trans (List.length_filter_le ..) hl
  obtain ⟨w2, hw2⟩ : ∃ w2, (w.alloc (.cells #[.int .i64 lim] 3)).alloc (.cells #[.slice none 0 0] 43) = w2 := ⟨_, rfl⟩
  have hs2 : w2.heap.size = w.heap.size + 2 := by rw [← hw2]; simp
  have hb2 : Below w.heap.size w w2 := by rw [← hw2]; exact ((Below.refl _ _).alloc (Nat.le_refl _) _).alloc (by simp) _
  have hl2 : w2.cell? ⟨w.heap.size, 0, none⟩ = some (.int .i64 lim) := by
    rw [← hw2]
    have h1 : (w.alloc (.cells #[.int .i64 lim] 3)).cell? ⟨w.heap.size, 0, none⟩ = some (.int .i64 lim) := World.cell?_alloc_at _ _ _ _ rfl
    exact cell_kept h1 (World.grownBy_alloc _ _ none) (fun r e => by cases e)
  have hq : (w.alloc (.cells #[.int .i64 lim] 3)).heap.size = w.heap.size + 1 := by simp
  have hv2 : w2.cell? ⟨w.heap.size + 1, 0, none⟩ = some (.slice none 0 0) := by rw [← hw2, ← hq]; exact World.cell?_alloc_at _ _ _ _ rfl
  have hf2 : w2.frozen? ⟨w.heap.size + 1, 0, none⟩ = false := by rw [← hw2, ← hq]; exact World.frozen?_alloc_at _ _ _ _ rfl
  obtain ⟨w0, hw0⟩ : ∃ w0, ((w2.alloc (.cells #[.pointer da] 23)).alloc (.cells #[.string lo] 9)).alloc (.cells #[.string hi] 9) = w0 := ⟨_, rfl⟩
  have hs0 : w0.heap.size = w.heap.size + 5 := by rw [← hw0]; simp; omega
  have hb02 : Below w2.heap.size w2 w0 := by rw [← hw0]; exact (((Below.refl _ _).alloc (Nat.le_refl _) _).alloc (by simp) _).alloc (by simp; omega) _
  have hb0 : Below w.heap.size w w0 := hb2.trans (hb02.mono hb2.size)
  have hcap : CapAt w0 (w.heap.size + 2) (.pointer da) lo hi := by
    rw [← hw0, ← hs2]
    have e1 : (w2.alloc (.cells #[.pointer da] 23)).heap.size = w2.heap.size + 1 := by simp
    have e2 : ((w2.alloc (.cells #[.pointer da] 23)).alloc (.cells #[.string lo] 9)).heap.size = w2.heap.size + 2 := by simp
    have k1 : (w2.alloc (.cells #[.pointer da] 23)).cell? ⟨w2.heap.size, 0, none⟩ = some (.pointer da) := World.cell?_alloc_at _ _ _ _ rfl
    have k2 : ((w2.alloc (.cells #[.pointer da] 23)).alloc (.cells #[.string lo] 9)).cell? ⟨w2.heap.size + 1, 0, none⟩ = some (.string lo) := by rw [← e1]; exact World.cell?_alloc_at _ _ _ _ rfl
    refine ⟨?_, ?_, ?_⟩
    · exact cell_kept (cell_kept k1 (World.grownBy_alloc _ _ none) (fun r e => by cases e)) (World.grownBy_alloc _ _ none) (fun r e => by cases e)
    · exact cell_kept k2 (World.grownBy_alloc _ _ none) (fun r e => by cases e)
    · rw [← e2]; exact World.cell?_alloc_at _ _ _ _ rfl
  have hseq := allStops da (5 - 1) p lo hi hlo hhi w.heap.size (w.heap.size + 2) d ks w0 (by omega) (by omega) hcap
    (fun u hu => hTop u (hb0.trans (hu.mono (by omega)))) ((TreeAt.tight (fun g _ hg => hg) ht).later hb0) hs
  have HI0 : RgI w lim [] w0 := ⟨(hb02.cell (p := ⟨w.heap.size, 0, none⟩) (by show w.heap.size < _; omega)).trans hl2, ⟨.slice none 0 0, none, (hb02.cell (p := ⟨w.heap.size + 1, 0, none⟩) (by show w.heap.size + 1 < _; omega)).trans hv2, (hb02.frozen (p := ⟨w.heap.size + 1, 0, none⟩) (by show w.heap.size + 1 < _; omega)).trans hf2, OwnKr.nil _, fun h => absurd rfl h, fun g e => by cases e⟩, hb0, by omega⟩
  refine (callsIn_wide (n := 5)).1 ?_
  refine callsIn_of_wp_marks Try.func27 rfl trivial ?_ rfl
  simp only [Try.ntmps27, List.size_toArray, List.length_cons, List.length_nil, Nat.reduceAdd, Nat.reduceSub, Array.replicate_succ, Array.replicate_zero, List.push_toArray, List.append_toArray, List.nil_append, List.cons_append]
  gi_wp2_with fail
  refine ⟨trivial, (allIn 4 _ _ _ _).mono ?_⟩
  rintro e wx ⟨rfl, hwx⟩
  rw [hw0] at hwx
  subst hwx
  rw [hs2] at *
  gi_wp2_with fail
  have hFin : ∀ (D : Nat) (pre : List Ke) (W : World), RgI w lim pre W → wx.heap.size ≤ D → W.heap[D]? = some (.deferred (some [])) → RgI w lim pre (W.putObj D (.deferred none)) := fun D pre W h hD hK => h.steady (grownBy_putObj' W D _) (fun k e => by cases e; exact ⟨by omega, _, hK, rfl⟩)
  refine wpIn_rangeFunc_ownH rfl (by omega) (gf := 56) (lb := #[.pointer (some ⟨w.heap.size + 2, 0, none⟩), .pointer (some ⟨w.heap.size + 2 + 1, 0, none⟩), .pointer (some ⟨w.heap.size + 2 + 2, 0, none⟩)]) rfl trivial (enters_of Try.func56 (by kernel_rfl) rfl) hseq belowK_t (belowK_b (by omega)) (Below.refl _ _) (fun _ => rfl)
    (fun pre W => RgI w lim pre W ∧ pre.length ≤ lim.toNat)
    (fun c xs W => c = .exit 0 ∧ ∃ pre x, xs = pre ++ [x] ∧ RgI w lim pre W ∧ pre.length = lim.toNat)
    (fun s W W' row ⟨h1, h2⟩ hg hr => ⟨h1.steady hg (fun k e => ⟨by have := (hr k e).1; omega, (hr k e).2⟩), h2⟩)
    (fun c s W W' row ⟨h0, pre, x, h1, h2, h3⟩ hg hr => ⟨h0, pre, x, h1, h2.steady hg (fun k e => ⟨by have := (hr k e).1; omega, (hr k e).2⟩), h3⟩)
    ⟨HI0, Nat.zero_le _⟩
    (fun x a' W => ∃ Bx, EnAt W Bx x.e ∧ a' = { tmps := #[.pointer da, .string lo, .string hi, .int .i64 lim, undef, undef, undef, .pointer (some ⟨w.heap.size, 0, none⟩), .slice none 0 0, .pointer (some ⟨w.heap.size + 1, 0, none⟩), .string x.key, .pointer (some ⟨Bx, 0, none⟩), .pointer da, .string lo, .string hi, .func (.func 56) #[] #[.pointer (some ⟨w.heap.size + 2, 0, none⟩), .pointer (some ⟨w.heap.size + 2 + 1, 0, none⟩), .pointer (some ⟨w.heap.size + 2 + 2, 0, none⟩)], .string x.key, x.e.v, undef, undef, undef, undef, undef, undef, undef, undef, undef, undef, undef], defers := [] })
    (fun x a' s W W' row ⟨Bx, ⟨k0, k1, k2, k3, k4, k5⟩, h2⟩ hg hr => ⟨Bx, ⟨cell_kept k0 hg (fun k e => (hr k e).2), cell_kept k1 hg (fun k e => (hr k e).2), cell_kept k2 hg (fun k e => (hr k e).2), cell_kept k3 hg (fun k e => (hr k e).2), cell_kept k4 hg (fun k e => (hr k e).2), cell_kept k5 hg (fun k e => (hr k e).2)⟩, h2⟩)
    ?assign ?body ?done ?stop
  case assign =>
    intro l pre x W K hIh hK
    obtain ⟨hI, hpl⟩ := hIh
    have hsz := hI.below.size
    gi_wp2
    exact hK _ _ ((KeepsOthers.alloc _ _).from _) ((Below.refl _ W).alloc hsz _) ⟨hI.steady (World.grownBy_alloc W _ none) (fun k e => by cases e), hpl⟩ ⟨W.heap.size, EnAt.new W x.e, rfl⟩
  case body =>
    rintro l pre x a' W hl0 ⟨rc, hrc⟩ ⟨hI, hpl⟩ ⟨Bx, hen, rfl⟩ hN
    have hIc := hI
    obtain ⟨hlim, ⟨v, r, hv, hvf, hown, hr5, hr6⟩, hbw, hsz⟩ := hI
    obtain ⟨k0, k1, k2, k3, k4, k5⟩ := hen
    obtain ⟨a, cap, rfl, hcap, hle⟩ := hown.shape
    rw [List.length_map] at *
    by_cases hlt : (pre.length : Int) < lim
    · gi_wp2_with (gi_at_builtin; refine wpListIn_append_k _ rfl _ _ rfl _ _ (pre.map Ke.r) [x.r] r rfl rfl ?hOwn ?hSrc ?hLen ?hR ?_)
      case hOwn => exact hown.later ((Below.refl _ W).alloc (Nat.le_refl _) _)
      case hSrc => exact src_kr W x
      case hLen => simp; omega
      case hR => exact .inr (by simp)
      intro v1 w1 g1 ho1 hg1 hgr1
      obtain ⟨a1, cap1, rfl, hcap1, hle1⟩ := ho1.shape
      have hlen1 : (pre.map Ke.r ++ [x.r]).length = pre.length + 1 := by simp
      rw [hlen1] at ho1 hle1 ⊢
      have hnb : ∀ j, j < w.heap.size + 5 → w1.heap[j]? = W.heap[j]? := fun j hj => (hg1.block j (by simp; omega) (fun e => by have := hr6 j e.symm; omega)).trans (Below.heap_alloc W _ j (by omega))
      have hv1 : w1.cell? ⟨w.heap.size + 1, 0, none⟩ = some (.slice a pre.length cap) := (World.cell?_of_block (w := W) (a := ⟨w.heap.size + 1, 0, none⟩) (hnb (w.heap.size + 1) (by omega))).trans hv
      have hvf1 : w1.frozen? ⟨w.heap.size + 1, 0, none⟩ = false := (World.frozen?_of_block (w := W) (a := ⟨w.heap.size + 1, 0, none⟩) (hnb (w.heap.size + 1) (by omega))).trans hvf
      have hs1 := hg1.size
      simp only [World.size_alloc] at hs1
      have hg1l : w.heap.size + 5 ≤ g1 := by
        rcases hgr1 with e | e
        · exact hr6 g1 e.symm
        · first | (simp at e; omega) | omega
      have hKO : KeepsOthers W w1 := (KeepsOthers.alloc W _).trans ((hown.later ((Below.refl _ W).alloc (Nat.le_refl _) _)).others hr5 hg1)
      have hBW : Below w.heap.size W w1 := ((Below.refl _ W).alloc (by omega) _).grown hg1 (by simp; omega) (fun k e => by have := hr6 k e; omega)
      have gS := grow_setC w1 (w.heap.size + 1) 0 (.slice a1 (pre.length + 1) cap1)
      have HE : Hid (KeepsFrom wx.heap.size W (w1.setCell ⟨w.heap.size + 1, 0, none⟩ (.slice a1 (pre.length + 1) cap1)) ∧ Below w.heap.size W (w1.setCell ⟨w.heap.size + 1, 0, none⟩ (.slice a1 (pre.length + 1) cap1)) ∧ RgI w lim (pre ++ [x]) (w1.setCell ⟨w.heap.size + 1, 0, none⟩ (.slice a1 (pre.length + 1) cap1)) ∧ (pre ++ [x]).length ≤ lim.toNat) := by
        refine ⟨(hKO.trans (KeepsOthers.setCell _ _ _)).from _, hBW.setCell (p := ⟨w.heap.size + 1, 0, none⟩) (by show w.heap.size ≤ w.heap.size + 1; omega) _, ⟨?_, ⟨_, some g1, World.cell?_setCell_same' _ _ _ (by rw [hv1]; rfl), by rw [World.frozen?_setCell]; exact hvf1, ?_, fun _ => by simp, fun g e => by cases e; exact hg1l⟩, ?_, ?_⟩, ?_⟩
        · rw [World.cell?_of_block (w := w1) (a := ⟨w.heap.size, 0, none⟩) (gS.block w.heap.size (by omega) (fun e => by simp at e)), World.cell?_of_block (w := W) (a := ⟨w.heap.size, 0, none⟩) (hnb w.heap.size (by omega))]
          exact hlim
        · have h2 := ho1.kept gS (.inr (fun e => by cases e; omega))
          rw [List.map_append]
          exact h2
        · exact (hbw.trans hBW).setCell (p := ⟨w.heap.size + 1, 0, none⟩) (by show w.heap.size ≤ w.heap.size + 1; omega) _
        · exact Nat.le_trans (by omega) gS.size
        · rw [List.length_append, List.length_singleton]; omega
      clear hKO hBW gS hnb ho1 hg1 hgr1
      gi_wp2
      exact HE.out
    · have hq2 : pre.length = lim.toNat := by omega
      have HIc : Hid (RgI w lim pre W) := hIc
      gi_wp2
      exact ⟨KeepsFrom.refl _ _, rfl, pre, ⟨x, rfl⟩, HIc.out, hq2⟩
  case done =>
    rintro D ys W hD rfl ⟨hI, hpl⟩ hK
    have hF := hFin D _ W hI hD hK
    obtain ⟨v, r, hv, hvf, hown, hr5, hr6⟩ := hI.row
    have hv' := cell_kept hv (grownBy_putObj' W D (.deferred none)) (fun k e => by cases e; exact ⟨_, hK, rfl⟩)
    obtain ⟨v2, r2, hv2', -, hown2, -, hr62⟩ := hF.row
    rw [hv'] at hv2'
    cases hv2'
    gi_wp2
    refine ⟨by simp, .inl ⟨_, _, rfl, run_takeDeferred hK, ?_⟩⟩
    exact ⟨_, results_tmp rfl _ _ _, v, r2, rfl, by rw [List.take_of_length_le hpl]; exact hown2, fun g e => by have := hr62 g e; omega, hF.below⟩
  case stop =>
    rintro D c pre' W hD hpre ⟨rfl, pre, x, rfl, hI, hpl⟩ hK
    have hF := hFin D _ W hI hD hK
    obtain ⟨v, r, hv, hvf, hown, hr5, hr6⟩ := hI.row
    have hv' := cell_kept hv (grownBy_putObj' W D (.deferred none)) (fun k e => by cases e; exact ⟨_, hK, rfl⟩)
    obtain ⟨v2, r2, hv2', -, hown2, -, hr62⟩ := hF.row
    rw [hv'] at hv2'
    cases hv2'
    have htk : (rngL lo hi ks).take lim.toNat = pre := by
      obtain ⟨t, ht⟩ := hpre
      rw [← ht, ← hpl]
      simp
    gi_wp2
    refine ⟨by simp, .inl ⟨_, _, rfl, run_takeDeferred hK, ?_⟩⟩
    exact ⟨_, results_tmp rfl _ _ _, v, r2, rfl, by rw [htk]; exact hown2, fun g e => by have := hr62 g e; omega, hF.below⟩

theorem rangeOf {D : Nat → Prop} {gd : Nat} {ks : List Ke} (lo hi : ByteArray) (lim : Int) (w : World) (h : DirAt D w gd ks) (hlo : lo.size ≤ maxLen) (hhi : hi.size ≤ maxLen) (hl : ks.length ≤ 2199023255500) :
    Calls Try.prog 27 #[.pointer (some ⟨gd, 0, none⟩), .string lo, .string hi, .int .i64 lim] w fun e w' => ∃ v r, e = .returned v ∧ OwnKr w' v (((rngL lo hi ks).take lim.toNat).map Ke.r) r ∧ (∀ g, r = some g → w.heap.size ≤ g) ∧ Below w.heap.size w w' := by
  have hgl := h.lt
  obtain ⟨-, hs, -, d, p, hcd, ht⟩ := h
  exact rangeG (some ⟨gd, 0, none⟩) p d lo hi lim w (ht.weak fun _ _ => trivial) hs (fun u hu => topOf gd p u ((hu.cell (p := ⟨gd, 0, none⟩) hgl).trans hcd)) hlo hhi hl
end Go.Proofs.Ytjhbaplnkigifaa

/-! keydir: a little dir does what the document shows. -/
namespace Go.Proofs.Ytjhbaplnkigifaa
open Go.RowKit Plain
set_option linter.unusedVariables false
set_option linter.unusedSimpArgs false

def kb : ByteArray := ⟨#[98]⟩
def ka : ByteArray := ⟨#[97]⟩
def e1 : En := ⟨0, 0, 0, 1, 0, false⟩
def e7 : En := ⟨0, 0, 0, 7, 0, false⟩
theorem hd1 : findL kb [] = none := rfl
theorem hd2 : insL kb e1 [] = [⟨kb, e1⟩] := rfl
theorem kbb : kc kb kb = 0 := kc_self _
theorem kab : kc ka kb = -1 := by decide
theorem kba : kc kb ka = 1 := by decide
theorem hd3 : findL kb [⟨kb, e1⟩] = some ⟨kb, e1⟩ := by rw [findL_cons, if_pos kbb]
theorem hd4 : insL kb e7 [⟨kb, e1⟩] = [⟨kb, e7⟩] := by simp [insL, kbb]
theorem hd5 : noteB kb e7 [⟨kb, e7⟩] = false := by
  unfold noteB
  rw [findL_cons, if_pos kbb]
  rfl
theorem hd6 : noteL kb e7 [⟨kb, e7⟩] = [⟨kb, e7⟩] := by unfold noteL; rw [hd5]; rfl
theorem hd7 : noteB ka En.zero [⟨kb, e7⟩] = true := by
  unfold noteB
  rw [findL_cons, if_neg (by rw [kab]; omega)]
  rfl
theorem hd8 : noteL ka En.zero [⟨kb, e7⟩] = [⟨ka, En.zero⟩, ⟨kb, e7⟩] := by unfold noteL; rw [hd7]; simp [insL, kab]
theorem rng_all {lo hi : ByteArray} (h : lo.size = 0) (h2 : hi.size = 0) (l : List Ke) : rngL lo hi l = l := by
  unfold rngL
  rw [List.filter_eq_self]
  intro x _
  have e : lo.data.toList = [] := by
    have h3 : lo.data.size = 0 := h
    rw [Array.eq_empty_of_size_eq_zero h3]
  have hk : kc x.key lo ≠ -1 := by
    unfold kc
    rw [e]
    cases x.key.data.toList <;> simp [cmpL]
  simp [rngB, hk, h2]

end Go.Proofs.Ytjhbaplnkigifaa

/-! keydir: Point, Freeze, and lists held against one another. -/
namespace Go.Proofs.Ytjhbaplnkigifaa
open Go.RowKit Plain
set_option linter.unusedVariables false
set_option linter.unusedSimpArgs false

theorem DirAt.other {D : Nat → Prop} {w w' : World} {gd g' : Nat} {l : List Ke} (h : DirAt D w gd l) (hg : w.grownBy w' (some g')) (hD : D g') (hne : gd ≠ g') : DirAt D w' gd l :=
  h.kept (hg.block gd h.lt (fun e => hne (by cases e; rfl))) fun j hj hd => hg.block j hj (fun e => hd (by cases e; exact hD))
theorem TreeAt.short {P : Nat → Prop} {w : World} : ∀ {n : Nat} {p : Option Addr} {l : List Ke}, TreeAt P w n p l → ∀ k ∈ l, k.key.size ≤ 64
  | 0, p, l, h, k, hk => by rw [h.2] at hk; simp at hk
  | n + 1, p, l, h, k, hk => by
    rcases h with ⟨_, h⟩ | ⟨g, k0, pl, pr, ll, lr, e, hp, hk0, hn, hl, h1, h2⟩
    · rw [h] at hk; simp at hk
    · rw [hl] at hk
      simp at hk
      rcases hk with hk | hk | hk
      · exact h1.short k hk
      · rw [hk]; exact hk0
      · exact h2.short k hk
def pointL (key : ByteArray) (off seg pos : Int) (l : List Ke) : List Ke := match findL key l with
  | some k => if k.e.off = off then insL key ⟨seg, pos, k.e.size, k.e.off, k.e.time, k.e.tomb⟩ l else l
  | none => l
theorem rootEnd0 {D : Nat → Prop} {gd n : Nat} {p : Option Addr} {l' : List Ke} {w w3 : World} (hdg : D gd) (hsr : Srt l') (hb : Below w.heap.size w w3) (hc : (w3.cell? ⟨gd, 0, none⟩).isSome = true) (hf : w3.frozen? ⟨gd, 0, none⟩ = false) (ht : TreeAt (fun g => ¬ D g) w3 n p l') :
    w.grownBy (w3.setCell ⟨gd, 0, none⟩ (.pointer p)) (some gd) ∧ DirAt D (w3.setCell ⟨gd, 0, none⟩ (.pointer p)) gd l' := by
  have g1 := grow_setC w3 gd 0 (.pointer p)
  refine ⟨grow_trans (below_grow hb _) g1 (.inl rfl), hdg, hsr, ?_, n, p, World.cell?_setCell_same' _ _ _ hc, ht.grown g1 (fun j hj e => hj (by rw [e]; exact hdg))⟩
  rw [World.frozen?_setCell]
  exact hf

set_option maxHeartbeats 4000000 in
theorem pointOf {D : Nat → Prop} {gd : Nat} {l : List Ke} (key : ByteArray) (off seg pos : Int) (w : World) (hD : ∀ g, w.heap.size ≤ g → ¬ D g) (h : DirAt D w gd l) (hk : key.size ≤ maxLen) (hl : l.length ≤ 1125899906842600) : Calls Try.prog 15 #[.pointer (some ⟨gd, 0, none⟩), .string key, .int .i64 off, .int .i64 seg, .int .i64 pos] w fun e w' => (∃ b, e = .returned (.bool b)) ∧ w.grownBy w' (some gd) ∧ DirAt D w' gd (pointL key off seg pos l) := by
  have HGE : Hid (Calls Try.prog 17 #[.pointer (some ⟨gd, 0, none⟩), .string key] w fun e w' => e = .returned (.tuple #[(gotE (findL key l)).v, .bool (findL key l).isSome]) ∧ Below w.heap.size w w') := getOf key w h hk
  have hgl := h.lt
  have HDA : Hid (∀ u, Below w.heap.size w u → DirAt D u gd l) := fun u hu => h.later hu
  obtain ⟨hdg, hsr, hfz', n, p, hcd', ht'⟩ := h
  have HTA : Hid (∀ u, Below w.heap.size w u → TreeAt (fun g => ¬ D g) u n p l) := fun u hu => ht'.later hu
  have HDG : Hid (D gd) := hdg
  have HSR : Hid (Srt l) := hsr
  have HSH : Hid (∀ k ∈ l, k.key.size ≤ 64) := ht'.short
  cases hfd : findL key l with
  | none =>
    have HPL : Hid (pointL key off seg pos l = l) := by unfold Hid pointL; rw [hfd]
    rw [hfd] at HGE
    obtain ⟨z, hz⟩ : ∃ z, gotE none = z := ⟨_, rfl⟩
    rw [hz] at HGE
    have HGE2 : Hid (Calls Try.prog 17 #[.pointer (some ⟨gd, 0, none⟩), .string key] w fun e w' => e = .returned (.tuple #[z.v, .bool false]) ∧ Below w.heap.size w w') := HGE
    clear HGE hfd hz ht' hcd' hfz' hdg hsr
    go_enter Try.func15, Try.ntmps15
    go_wp2_with fail
    refine HGE2.out.mono ?_
    rintro e w1 ⟨rfl, hb1⟩
    have HF : Hid (∀ w2, Below w1.heap.size w1 w2 → w.grownBy w2 (some gd) ∧ DirAt D w2 gd (pointL key off seg pos l)) := fun w2 h2 => by
      rw [HPL.out]
      exact ⟨below_grow (below_step' hb1 h2) _, HDA.out w2 (below_step' hb1 h2)⟩
    clear hb1
    go_wp2
    go_ret
    exact ⟨⟨_, rfl⟩, HF.out _ ((Below.refl _ _).alloc (Nat.le_refl _) _)⟩
  | some k =>
    have hmem := findL_is hfd
    have hks : key.size ≤ 64 := by rw [← hmem.2]; exact HSH.out k hmem.1
    have HPL : Hid (pointL key off seg pos l = if k.e.off = off then insL key ⟨seg, pos, k.e.size, k.e.off, k.e.time, k.e.tomb⟩ l else l) := by unfold Hid pointL; rw [hfd]
    rw [hfd] at HGE
    have HGE2 : Hid (Calls Try.prog 17 #[.pointer (some ⟨gd, 0, none⟩), .string key] w fun e w' => e = .returned (.tuple #[k.e.v, .bool true]) ∧ Below w.heap.size w w') := HGE
    clear HGE hfd hmem
    obtain ⟨kk, old⟩ := k
    obtain ⟨oa, ob, oc, od, ot, om⟩ := old
    simp only at HGE2 HPL
    have hcdw : Hid (∀ u, Below w.heap.size w u → u.cell? ⟨gd, 0, none⟩ = some (.pointer p) ∧ u.frozen? ⟨gd, 0, none⟩ = false) := fun u hu => ⟨(hu.cell (p := ⟨gd, 0, none⟩) hgl).trans hcd', (hu.frozen (p := ⟨gd, 0, none⟩) hgl).trans hfz'⟩
    clear ht' hcd' hfz' hdg hsr
    go_enter Try.func15, Try.ntmps15
    go_wp2_with fail
    refine HGE2.out.mono ?_
    rintro e w1 ⟨rfl, hb1⟩
    have HB1 : Hid (Below w.heap.size w w1) := hb1
    have hs1 := hb1.size
    clear hb1 HGE2
    by_cases hoff : od = off
    · subst hoff
      have HPL2 : Hid (pointL key od seg pos l = insL key ⟨seg, pos, oc, od, ot, om⟩ l) := by unfold Hid; rw [HPL.out, if_pos rfl]
      obtain ⟨w2, hw2⟩ : ∃ w2, w1.alloc (.cells #[.int .i64 seg, .int .i64 pos, .int .i64 oc, .int .i64 od, .int .i64 ot, .bool om] 38) = w2 := ⟨_, rfl⟩
      have hb12 : Below w1.heap.size w1 w2 := by rw [← hw2]; exact (Below.refl _ _).alloc (Nat.le_refl _) _
      have hb2 : Below w.heap.size w w2 := below_step' HB1.out hb12
      have HB2 : Hid (Below w.heap.size w w2) := hb2
      obtain ⟨d0, d1, d2, d3, d4, d5⟩ : EnAt w2 w1.heap.size ⟨seg, pos, oc, od, ot, om⟩ := by rw [← hw2]; exact EnAt.new w1 ⟨seg, pos, oc, od, ot, om⟩
      simp only at d0 d1 d2 d3 d4 d5
      have HW : Hid (∀ u, Below w2.heap.size w2 u → Calls Try.prog 41 #[.pointer p, .string key, En.v ⟨seg, pos, oc, od, ot, om⟩] u (TreeRet (fun g => ¬ D g) u (insL key ⟨seg, pos, oc, od, ot, om⟩ l))) := fun u hu => withOf _ key ⟨seg, pos, oc, od, ot, om⟩ hks n u p l (fun g hg => hD g (by have := hu.size; have := hb2.size; omega)) (HTA.out u (below_step' hb2 hu)) HSR.out (by omega)
      obtain ⟨hcd, hfz⟩ := hcdw.out w2 hb2
      clear hb12 hb2
      go_wp2
      go_region_with (first
        | (go_at_call 41
           refine (HW.out _ (by first | exact Below.refl _ _ | exact Below.drew (Below.refl _ _))).mono ?_
           rintro e w3 ⟨n3, p3, rfl, ht3, hb3⟩
           have hb23 : Below w2.heap.size w2 w3 := (by first | exact hb3 | exact (Below.drew (Below.refl _ w2)).trans hb3)
           have hcd3 := (hb23.cell (p := ⟨gd, 0, none⟩) (cell_lt hcd)).trans hcd
           have hfz3 := (hb23.frozen (p := ⟨gd, 0, none⟩) (cell_lt hcd)).trans hfz
           have HF : Hid (w.grownBy (w3.setCell ⟨gd, 0, none⟩ (.pointer p3)) (some gd) ∧ DirAt D (w3.setCell ⟨gd, 0, none⟩ (.pointer p3)) gd (insL key ⟨seg, pos, oc, od, ot, om⟩ l)) := rootEnd0 HDG.out (HSR.out.ins key _) (below_step' HB2.out hb23) (by rw [hcd3]; rfl) hfz3 ht3
           clear ht3 hb3 hb23 HW))
      all_goals
        go_wp2
        go_ret
        exact ⟨⟨_, rfl⟩, by rw [HPL2.out]; exact HF.out⟩
    · have HPL2 : Hid (pointL key off seg pos l = l) := by unfold Hid; rw [HPL.out, if_neg hoff]
      have HF : Hid (∀ w2, Below w1.heap.size w1 w2 → w.grownBy w2 (some gd) ∧ DirAt D w2 gd (pointL key off seg pos l)) := fun w2 h2 => by
        rw [HPL2.out]
        exact ⟨below_grow (below_step' HB1.out h2) _, HDA.out w2 (below_step' HB1.out h2)⟩
      go_wp2
      go_ret
      exact ⟨⟨_, rfl⟩, HF.out _ ((Below.refl _ _).alloc (Nat.le_refl _) _)⟩

theorem freezeOf {D : Nat → Prop} {gd : Nat} {l : List Ke} (w : World) (h : DirAt D w gd l) (hD : D w.heap.size) : Calls Try.prog 35 #[.pointer (some ⟨gd, 0, none⟩)] w fun e w' => e = .returned (.pointer (some ⟨w.heap.size, 0, none⟩)) ∧ Below w.heap.size w w' ∧ DirAt D w' w.heap.size l := by
  obtain ⟨hdg, hsr, hfz', n, p, hcd', ht'⟩ := h
  have HF : Hid (DirAt D (w.alloc (.cells #[.pointer p] 28)) w.heap.size l) := ⟨hD, hsr, World.frozen?_alloc_at _ _ _ _ rfl, n, p, World.cell?_alloc_at _ _ _ _ rfl, ht'.later ((Below.refl _ _).alloc (Nat.le_refl _) _)⟩
  clear ht' hfz'
  go_enter Try.func35, Try.ntmps35
  go_wp2
  go_ret
  exact ⟨rfl, (Below.refl _ _).alloc (Nat.le_refl _) _, HF.out⟩

theorem sameOf (va vb : Value) (st : List Kr) (w : World) (ha : KrsAt w va st) (hb : KrsAt w vb st) :
    Calls Try.prog 28 #[va, vb] w fun e w' => e = .returned (.bool true) ∧ ∃ n, w' = w.drewN n := by
  obtain ⟨a, cap, rfl, hcl, -, hcells⟩ := ha
  obtain ⟨a', cap', rfl, -, -, hcells'⟩ := hb
  by_cases hnil : st = []
  · subst hnil
    clear hcells hcells'
    go_enter Try.func28, Try.ntmps28
    go_wp2
    refine wp_loop_rounds 1 ?_
    rw [rounds_succ]
    go_wp2
    go_ret
    exact ⟨rfl, 0, rfl⟩
  · obtain ⟨b, off, rfl, hc⟩ := hcells hnil
    obtain ⟨b', off', rfl, hc'⟩ := hcells' hnil
    have HC : Hid (∀ j, j < st.length → Kr.CellsAt w b (off + j * 7) (st.getD j Kr.zero)) := hc
    have HC' : Hid (∀ j, j < st.length → Kr.CellsAt w b' (off' + j * 7) (st.getD j Kr.zero)) := hc'
    clear hcells hcells' hc hc' hnil
    go_enter Try.func28, Try.ntmps28
    go_wp2
    go_loopw [5] (fun i w' => ∃ k n : Nat, w' = w.drewN n ∧ k ≤ st.length ∧ i = .int .i64 k) (fun i _ => st.length - (intOf i).toNat)
    case atStart => exact ⟨0, 0, rfl, by omega, rfl⟩
    case round =>
      obtain ⟨k, n, rfl, hk, rfl⟩ := hrel
      by_cases hlt : k < st.length
      · have hx := HC.out k hlt
        have hy := HC'.out k hlt
        generalize st.getD k Kr.zero = x at hx hy
        obtain ⟨xkey, xa, xb, xc, xd, xt, xm⟩ := x
        obtain ⟨c0, c1, c2, c3, c4, c5, c6⟩ := hx
        obtain ⟨d0, d1, d2, d3, d4, d5, d6⟩ := hy
        simp only at c0 c1 c2 c3 c4 c5 c6 d0 d1 d2 d3 d4 d5 d6
        go_wp2
        go_quiet (fail)
        go_wp2
        go_roundw
        case rel => exact ⟨k + 1, _, rfl, by omega, by go_num⟩
        case measure => simp [intOf]; omega
      · go_wp2
        go_ret
        exact ⟨rfl, _, rfl⟩
end Go.Proofs.Ytjhbaplnkigifaa
