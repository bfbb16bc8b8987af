import Derived.Test.YtjhbaplnkigifaaQk12
import Derived.RangeFuncCalls
/-! keydir: the document's Nth, Point. -/
namespace Go.Proofs.Ytjhbaplnkigifaa
open Go.RowKit Plain
set_option linter.unusedVariables false
set_option linter.unusedSimpArgs false

theorem OwnKr.setPart {w : World} {v : Value} {g j : Nat} {ts : List Kr} (x : Kr) (o : Nat) (cs : List Value) (h : OwnKr w v ts (some g)) (hj : j < ts.length) (ho : o + cs.length ≤ 7) (hx : ∀ i, i < 7 → x.cells[i]? = if o ≤ i ∧ i < o + cs.length then cs[i - o]? else (ts.getD j Kr.zero).cells[i]?) : OwnKr (w.setCells g (j * 7 + o) cs) v (ts.set j x) (some g) := by
  rcases h with ⟨_, _, h⟩ | ⟨g', cap, e, rfl, hg, h1, h2, h3, h4, h5⟩
  · simp at h
  · simp at e; subst e
    refine .inr ⟨g, cap, rfl, by simp, by rw [setCells_size]; exact hg, by simpa using h1, h2, fun i hi => ?_, fun i hi => ?_, fun i hi => ?_⟩
    · rw [World.frozen?_setCells]; exact h3 i hi
    · exact isSome_setCells g _ _ w _ (h4 i hi)
    · rw [List.length_set] at hi
      rw [kcells_set ts j x hj i]
      by_cases hin : j * 7 ≤ i ∧ i < j * 7 + 7
      · rw [if_pos hin, hx (i - j * 7) (by omega)]
        by_cases hi2 : j * 7 + o ≤ i ∧ i < j * 7 + o + cs.length
        · rw [if_pos (by omega)]
          have := World.cell?_setCells_in g cs (j * 7 + o) w (fun m hm => h4 _ (by omega)) (i - (j * 7 + o)) (by omega)
          rw [show j * 7 + o + (i - (j * 7 + o)) = i by omega] at this
          rw [this, show i - j * 7 - o = i - (j * 7 + o) by omega, List.getElem?_eq_getElem (by omega)]
        · rw [if_neg (by omega), World.cell?_setCells_out g _ _ w _ (fun _ _ => by simp only; omega), h5 i hi]
          have := kcells_get ts j (i - j * 7) hj (by omega)
          rw [show j * 7 + (i - j * 7) = i by omega] at this
          exact this
      · rw [if_neg hin, ← h5 i hi]
        exact World.cell?_setCells_out g _ _ w _ (fun _ _ => by simp only; omega)

theorem ke_getD_mem {l : List Ke} {k : Nat} (h : k < l.length) : l.getD k Ke.zero ∈ l := by
  rw [List.getD_eq_getElem?_getD, List.getElem?_eq_getElem h]; exact List.getElem_mem _
theorem ins_short {l : List Ke} {key : ByteArray} {en : En} (h : ∀ k ∈ l, k.key.size ≤ 64) (hk : key.size ≤ 64) : ∀ k ∈ insL key en l, k.key.size ≤ 64 := fun k hm => by
  rcases insL_mem hm with e | e
  · rw [e]; exact hk
  · exact h k e
/-- The blocks of the document's dir. -/
def XB (gx : Nat) (r : Option Nat) (g : Nat) : Prop := g = gx ∨ r = some g
theorem XDirAt.put {w w' : World} {gx : Nat} {v : Value} {l l' : List Ke} {g : Nat} (h : XDirAt w gx v l (some g)) (ho : OwnKr w' v (rowK l') (some g)) (hg : w.grownBy w' (some g)) (hs : Srt l') (hsh : ∀ k ∈ l', k.key.size ≤ 64) (hl : l'.length = l.length) : XDirAt w' gx v l' (some g) := by
  have hb : w'.heap[gx]? = w.heap[gx]? := hg.block gx h.lt (fun e => h.ne e.symm)
  exact ⟨(World.cell?_of_block (w := w) (a := ⟨gx, 0, none⟩) hb).trans h.cell, (World.frozen?_of_block (w := w) (a := ⟨gx, 0, none⟩) hb).trans h.froz, ho, h.ne, hs, hsh, by rw [hl]; exact h.len⟩
theorem XDirAt.setE {w : World} {gx g : Nat} {v : Value} {l : List Ke} {key : ByteArray} {x : Ke} (en : En) (h : XDirAt w gx v l (some g)) (hf : findL key l = some x) :
    XDirAt (w.setCells g (rankL key l * 7 + 1) [.int .i64 en.seg, .int .i64 en.pos, .int .i64 en.size, .int .i64 en.off, .int .i64 en.time, .bool en.tomb]) gx v (insL key en l) (some g) ∧ w.grownBy (w.setCells g (rankL key l * 7 + 1) [.int .i64 en.seg, .int .i64 en.pos, .int .i64 en.size, .int .i64 en.off, .int .i64 en.time, .bool en.tomb]) (some g) := by
  obtain ⟨_, h1, h2⟩ := at_found h.srt hf
  have hg := grow_setCells w g (rankL key l * 7 + 1) [.int .i64 en.seg, .int .i64 en.pos, .int .i64 en.size, .int .i64 en.off, .int .i64 en.time, .bool en.tomb]
  obtain ⟨hm, hk⟩ := findL_is hf
  have hks : key.size ≤ 64 := by rw [← hk]; exact h.short x hm
  have ho := h.row.setE en h1
  rw [← ins_found h.srt hf] at ho
  exact ⟨h.put ho hg (h.srt.ins key en) (ins_short h.short hks) (by rw [ins_found h.srt hf, List.length_set]), hg⟩
theorem XDirAt.setP {w : World} {gx g : Nat} {v : Value} {l : List Ke} {key : ByteArray} {x : Ke} (seg pos : Int) (h : XDirAt w gx v l (some g)) (hf : findL key l = some x) :
    XDirAt (w.setCells g (rankL key l * 7 + 1) [.int .i64 seg, .int .i64 pos]) gx v (insL key ⟨seg, pos, x.e.size, x.e.off, x.e.time, x.e.tomb⟩ l) (some g) ∧ w.grownBy (w.setCells g (rankL key l * 7 + 1) [.int .i64 seg, .int .i64 pos]) (some g) := by
  obtain ⟨_, h1, h2⟩ := at_found h.srt hf
  have hg := grow_setCells w g (rankL key l * 7 + 1) [.int .i64 seg, .int .i64 pos]
  obtain ⟨hm, hk⟩ := findL_is hf
  have hks : key.size ≤ 64 := by rw [← hk]; exact h.short x hm
  have ho : OwnKr (w.setCells g (rankL key l * 7 + 1) [.int .i64 seg, .int .i64 pos]) v ((rowK l).set (rankL key l) (Ke.r ⟨x.key, ⟨seg, pos, x.e.size, x.e.off, x.e.time, x.e.tomb⟩⟩)) (some g) := h.row.setPart _ 1 _ (by simpa using h1) (by simp) (fun i hi => by
    rw [rowK_getD l _ h1, h2]
    match i, hi with
    | 0, _ => rfl
    | 1, _ => rfl
    | 2, _ => rfl
    | 3, _ => rfl
    | 4, _ => rfl
    | 5, _ => rfl
    | 6, _ => rfl)
  have e : (rowK l).set (rankL key l) (Ke.r ⟨x.key, ⟨seg, pos, x.e.size, x.e.off, x.e.time, x.e.tomb⟩⟩) = rowK (insL key ⟨seg, pos, x.e.size, x.e.off, x.e.time, x.e.tomb⟩ l) := by
    rw [ins_found h.srt hf, h2]
    simp [rowK, List.map_set]
  rw [e] at ho
  exact ⟨h.put ho hg (h.srt.ins key _) (ins_short h.short hks) (by rw [ins_found h.srt hf, List.length_set]), hg⟩

theorem hresXnth : Try.f26.results = #[.cell 4 58, .tmp 5] := by kernel_rfl
set_option maxHeartbeats 4000000 in
theorem xnthOf (gx : Nat) (v : Value) (l : List Ke) (r : Option Nat) (n : Int) (w : World) (h : XDirAt w gx v l r) (hn : I64 n) :
    Calls Try.prog 26 #[.pointer (some ⟨gx, 0, none⟩), .int .i64 n] w fun e w' => e = .returned (.tuple #[((nthL l n).getD Ke.zero).v, .bool (nthL l n).isSome]) ∧ Below w.heap.size w w' := by
  obtain ⟨a, cap, rfl, hc1, hc2⟩ := h.shape
  obtain ⟨w0, hw0⟩ : ∃ w0, w.alloc (.cells #[.string ⟨#[]⟩, .int .i64 0, .int .i64 0, .int .i64 0, .int .i64 0, .int .i64 0, .bool false] 58) = w0 := ⟨_, rfl⟩
  have hb0 : Below w.heap.size w w0 := by rw [← hw0]; exact (Below.refl _ _).alloc (Nat.le_refl _) _
  have HX := h.later hb0
  have HG : Hid (∀ x, Below w.heap.size w (putKe w0 w.heap.size x)) := fun x => hb0.trans (grow_below (putKe_grow w0 w.heap.size x) hb0.size (fun g e => by cases e; exact Nat.le_refl _))
  obtain ⟨r0, r1, r2, r3, r4, r5, r6⟩ : KeAt w0 w.heap.size Ke.zero := by rw [← hw0]; exact KeAt.new w Ke.zero
  simp only [Ke.zero, En.zero] at r0 r1 r2 r3 r4 r5 r6
  have hfr : ∀ j, w0.frozen? ⟨w.heap.size, j, none⟩ = false := fun j => by rw [← hw0]; exact World.frozen?_alloc_at _ _ _ _ rfl
  have f0 := hfr 0
  have f1 := hfr 1
  have f2 := hfr 2
  have f3 := hfr 3
  have f4 := hfr 4
  have f5 := hfr 5
  have f6 := hfr 6
  have c0 := HX.cell
  have hll := HX.len
  clear hfr hb0
  unfold I64 at hn
  by_cases h1 : n < 0
  · have HF : Hid (nthL l n = none) := by unfold Hid nthL; rw [if_neg (by omega)]
    clear h HX
    go_enter Try.func26, Try.ntmps26
    go_wp2
    refine bodyPost_ret (v := .tuple #[Ke.zero.v, .bool false]) ?_ rfl ⟨by rw [HF.out]; rfl, HG.out Ke.zero⟩
    simp only [results, hresXnth, Ke.zero, En.zero]
    go_simp
  · by_cases h2 : (l.length : Int) ≤ n
    · have HF : Hid (nthL l n = none) := by unfold Hid nthL; rw [if_pos (by omega), List.getElem?_eq_none (by omega)]
      clear h HX
      go_enter Try.func26, Try.ntmps26
      go_wp2
      refine bodyPost_ret (v := .tuple #[Ke.zero.v, .bool false]) ?_ rfl ⟨by rw [HF.out]; rfl, HG.out Ke.zero⟩
      simp only [results, hresXnth, Ke.zero, En.zero]
      go_simp
    · obtain ⟨k, rfl⟩ : ∃ k : Nat, n = k := ⟨n.toNat, by omega⟩
      have hk : k < l.length := by omega
      have HF : Hid (nthL l k = some (l.getD k Ke.zero)) := nth_at hk
      obtain ⟨g, rfl, rfl, hc⟩ := HX.at hk
      generalize l.getD k Ke.zero = x at hc HF
      obtain ⟨xkey, xe⟩ := x
      obtain ⟨x1, x2, x3, x4, x5, x6⟩ := xe
      obtain ⟨d0, d1, d2, d3, d4, d5, d6⟩ := hc
      simp only [Ke.r] at d0 d1 d2 d3 d4 d5 d6
      have hki : (k : Int) < (l.length : Int) := by omega
      clear h HX
      go_enter Try.func26, Try.ntmps26
      go_wp2
      refine bodyPost_ret (v := .tuple #[Ke.v ⟨xkey, ⟨x1, x2, x3, x4, x5, x6⟩⟩, .bool true]) ?_ rfl ⟨by rw [HF.out]; rfl, HG.out ⟨xkey, ⟨x1, x2, x3, x4, x5, x6⟩⟩⟩
      simp only [results, hresXnth]
      go_simp

def pointB (key : ByteArray) (off : Int) (l : List Ke) : Bool := match findL key l with
  | some k => decide (k.e.off = off)
  | none => false
set_option maxHeartbeats 4000000 in
theorem xpointOf (gx : Nat) (v : Value) (l : List Ke) (r : Option Nat) (key : ByteArray) (off seg pos : Int) (w : World) (h : XDirAt w gx v l r) (hk : key.size ≤ maxLen) :
    Calls Try.prog 16 #[.pointer (some ⟨gx, 0, none⟩), .string key, .int .i64 off, .int .i64 seg, .int .i64 pos] w fun e w' => e = .returned (.bool (pointB key off l)) ∧ XDirAt w' gx v (pointL key off seg pos l) r ∧ Chg (XB gx r) w w' := by
  obtain ⟨a, cap, rfl, hc1, hc2⟩ := h.shape
  have HAT : Hid (Calls Try.prog 42 #[.pointer (some ⟨gx, 0, none⟩), .string key] w fun e w' => e = .returned (.int .i64 (atL key l)) ∧ ∃ n, w' = w.drewN n) := xatOf gx _ l r key w h hk
  have HX : Hid (∀ n, XDirAt (w.drewN n) gx (.slice a l.length cap) l r) := fun n => h.later (below_drewN (Below.refl _ _) n)
  have HCH : Hid (∀ n, Chg (XB gx r) w (w.drewN n)) := fun n => Chg.ofBelow (below_drewN (Below.refl _ _) n)
  have c0 := h.cell
  have hll := h.len
  cases hf : findL key l with
  | none =>
    have HP : Hid (pointL key off seg pos l = l) := by unfold Hid pointL; rw [hf]
    have HPB : Hid (pointB key off l = false) := by unfold Hid pointB; rw [hf]
    rw [at_none hf] at HAT
    clear h hf hk
    go_enter Try.func16, Try.ntmps16
    go_wp2_with fail
    refine HAT.out.mono ?_
    rintro e w' ⟨rfl, nq, rfl⟩
    go_wp2
    go_ret
    exact ⟨by rw [HPB.out]; simp, by rw [HP.out]; exact HX.out nq, HCH.out nq⟩
  | some x =>
    obtain ⟨e1, h1, h2⟩ := at_found h.srt hf
    obtain ⟨g, rfl, rfl, hc⟩ := h.at h1
    have HPB : Hid (pointB key off l = decide (x.e.off = off)) := by unfold Hid pointB; rw [hf]
    have HPL : Hid (pointL key off seg pos l = if x.e.off = off then insL key ⟨seg, pos, x.e.size, x.e.off, x.e.time, x.e.tomb⟩ l else l) := by unfold Hid pointL; rw [hf]
    have HSE : Hid (∀ n, XDirAt ((w.drewN n).setCells g (rankL key l * 7 + 1) [.int .i64 seg, .int .i64 pos]) gx (.slice (some ⟨g, 0, none⟩) l.length cap) (insL key ⟨seg, pos, x.e.size, x.e.off, x.e.time, x.e.tomb⟩ l) (some g) ∧ (w.drewN n).grownBy ((w.drewN n).setCells g (rankL key l * 7 + 1) [.int .i64 seg, .int .i64 pos]) (some g)) := fun n => (HX.out n).setP seg pos hf
    have f1 : w.frozen? ⟨g, rankL key l * 7 + 1, none⟩ = false := h.row.fz (by simp; omega)
    have f2 : w.frozen? ⟨g, rankL key l * 7 + 2, none⟩ = false := h.row.fz (by simp; omega)
    have hng : ¬ gx = g := fun e => h.ne (by rw [e])
    rw [h2] at hc
    rw [e1] at HAT
    obtain ⟨xkey, xe⟩ := x
    obtain ⟨x1, x2, x3, x4, x5, x6⟩ := xe
    obtain ⟨d0, d1, d2, d3, d4, d5, d6⟩ := hc
    simp only [Ke.r] at d0 d1 d2 d3 d4 d5 d6
    simp only at HPB HPL HSE
    have hki : (rankL key l : Int) < (l.length : Int) := by omega
    clear h hk h2 hf e1
    generalize rankL key l = k at *
    by_cases ho : x4 = off
    · have HPB2 : Hid (pointB key off l = true) := by unfold Hid; rw [HPB.out]; simp [ho]
      have HPL2 : Hid (pointL key off seg pos l = insL key ⟨seg, pos, x3, x4, x5, x6⟩ l) := by unfold Hid; rw [HPL.out, if_pos ho]
      clear HPB HPL
      go_enter Try.func16, Try.ntmps16
      go_wp2_with fail
      refine HAT.out.mono ?_
      rintro e w' ⟨rfl, nq, rfl⟩
      go_wp2
      go_ret
      obtain ⟨q1, q2⟩ := HSE.out nq
      exact ⟨by rw [HPB2.out]; rfl, by rw [HPL2.out]; exact q1, (HCH.out nq).grown q2 (fun j e => .inl (.inr e))⟩
    · have HPB2 : Hid (pointB key off l = false) := by unfold Hid; rw [HPB.out]; simp [ho]
      have HPL2 : Hid (pointL key off seg pos l = l) := by unfold Hid; rw [HPL.out, if_neg ho]
      have hB : (x4 != off) = true := by simpa using ho
      clear HPB HPL
      go_enter Try.func16, Try.ntmps16
      go_wp2_with fail
      refine HAT.out.mono ?_
      rintro e w' ⟨rfl, nq, rfl⟩
      go_wp2
      go_ret
      exact ⟨by rw [HPB2.out]; simp, by rw [HPL2.out]; exact HX.out nq, HCH.out nq⟩
end Go.Proofs.Ytjhbaplnkigifaa

/-! keydir: the document's Put, Remove, Note. -/
namespace Go.Proofs.Ytjhbaplnkigifaa
open Go.RowKit Plain
set_option linter.unusedVariables false
set_option linter.unusedSimpArgs false

/-- What a change of the document's dir leaves. -/
structure XPut (w w' : World) (gx : Nat) (r : Option Nat) (l : List Ke) (v' : Value) (r' : Option Nat) : Prop where
  dir : XDirAt w' gx v' l r'
  chg : Chg (XB gx r) w w'
  new : r' = r ∨ ∀ g, r' = some g → w.heap.size ≤ g
  kp : KeepsOthers w w'
theorem keeps_below {w w' : World} (h : Below w.heap.size w w') : KeepsOthers w w' := ⟨h.size, fun k o hk _ => (h.block k (Array.getElem?_eq_some_iff.1 hk).1).trans hk⟩
theorem putEn_keeps (w : World) (g : Nat) (e : En) : KeepsOthers w (putEn w g e) := (((((KeepsOthers.setCell _ _ _).trans (KeepsOthers.setCell _ _ _)).trans (KeepsOthers.setCell _ _ _)).trans (KeepsOthers.setCell _ _ _)).trans (KeepsOthers.setCell _ _ _)).trans (KeepsOthers.setCell _ _ _)
theorem keeps_cell {w w' : World} {g o : Nat} {u : Value} (hg : w.grownBy w' (some g)) (hc : w.cell? ⟨g, o, none⟩ = some u) : KeepsOthers w w' := KeepsOthers.of_grownBy hg fun j ob e ho => by
  cases e
  cases ob <;> first | rfl | (exfalso; simp [World.cell?, ho] at hc)
theorem hresXput : Try.f12.results = #[.cell 6 38, .tmp 7, .tmp 8] := by kernel_rfl
set_option maxHeartbeats 4000000 in
theorem xputBad (gx : Nat) (key : ByteArray) (en : En) (w : World) (hk : okKey key = false) (hm : key.size ≤ maxLen) :
    Calls Try.prog 12 #[.pointer (some ⟨gx, 0, none⟩), .string key, en.v] w fun e w' => e = .returned (.tuple #[En.zero.v, .bool false, .int .i64 42]) ∧ Below w.heap.size w w' := by
  obtain ⟨w0, hw0⟩ : ∃ w0, (w.alloc (.cells #[.int .i64 en.seg, .int .i64 en.pos, .int .i64 en.size, .int .i64 en.off, .int .i64 en.time, .bool en.tomb] 38)).alloc (.cells #[.int .i64 0, .int .i64 0, .int .i64 0, .int .i64 0, .int .i64 0, .bool false] 38) = w0 := ⟨_, rfl⟩
  have hs0 : w0.heap.size = w.heap.size + 2 := by rw [← hw0]; simp
  have hb0 : Below w.heap.size w w0 := by rw [← hw0]; exact ((Below.refl _ _).alloc (Nat.le_refl _) _).alloc (by simp) _
  have hq : (w.alloc (.cells #[.int .i64 en.seg, .int .i64 en.pos, .int .i64 en.size, .int .i64 en.off, .int .i64 en.time, .bool en.tomb] 38)).heap.size = w.heap.size + 1 := by simp
  have hR : EnAt w0 (w.heap.size + 1) En.zero := by rw [← hw0, ← hq]; exact EnAt.new _ En.zero
  have hF : ∀ j, w0.frozen? ⟨w.heap.size + 1, j, none⟩ = false := fun j => by
    rw [← hw0, ← hq]
    exact World.frozen?_alloc_at _ _ _ _ rfl
  obtain ⟨r0, r1, r2, r3, r4, r5⟩ := hR
  simp only [En.zero] at r0 r1 r2 r3 r4 r5
  have f0 := hF 0
  have f1 := hF 1
  have f2 := hF 2
  have f3 := hF 3
  have f4 := hF 4
  have f5 := hF 5
  have HB0 : Hid (Below w.heap.size w w0) := hb0
  clear hF hb0 hq
  unfold maxLen at hm
  have hcase : (key.size : Int) < 1 ∨ ¬ (key.size : Int) < 1 ∧ (64 : Int) < (key.size : Int) := by
    unfold okKey at hk
    simp only [decide_eq_false_iff_not] at hk
    omega
  rcases hcase with h1 | ⟨h1, h2⟩
  · go_enter Try.func12, Try.ntmps12
    go_wp2
    refine bodyPost_ret (v := .tuple #[En.zero.v, .bool false, .int .i64 42]) ?_ rfl ⟨rfl, putEn_below En.zero HB0.out (by omega)⟩
    simp only [results, hresXput, En.zero]
    go_simp
  · go_enter Try.func12, Try.ntmps12
    go_wp2
    refine bodyPost_ret (v := .tuple #[En.zero.v, .bool false, .int .i64 42]) ?_ rfl ⟨rfl, putEn_below En.zero HB0.out (by omega)⟩
    simp only [results, hresXput, En.zero]
    go_simp
set_option maxHeartbeats 8000000 in
theorem xputOld (gx : Nat) (v : Value) (l : List Ke) (r : Option Nat) (key : ByteArray) (en : En) (x : Ke) (w : World) (h : XDirAt w gx v l r) (hk1 : 1 ≤ key.size) (hk : key.size ≤ 64) (hf : findL key l = some x) :
    Calls Try.prog 12 #[.pointer (some ⟨gx, 0, none⟩), .string key, en.v] w fun e w' => e = .returned (.tuple #[x.e.v, .bool true, .int .i64 0]) ∧ XPut w w' gx r (insL key en l) v r := by
  obtain ⟨a, cap, rfl, hc1, hc2⟩ := h.shape
  obtain ⟨w0, hw0⟩ : ∃ w0, (w.alloc (.cells #[.int .i64 en.seg, .int .i64 en.pos, .int .i64 en.size, .int .i64 en.off, .int .i64 en.time, .bool en.tomb] 38)).alloc (.cells #[.int .i64 0, .int .i64 0, .int .i64 0, .int .i64 0, .int .i64 0, .bool false] 38) = w0 := ⟨_, rfl⟩
  have hs0 : w0.heap.size = w.heap.size + 2 := by rw [← hw0]; simp
  have hb0 : Below w.heap.size w w0 := by rw [← hw0]; exact ((Below.refl _ _).alloc (Nat.le_refl _) _).alloc (by simp) _
  have hq : (w.alloc (.cells #[.int .i64 en.seg, .int .i64 en.pos, .int .i64 en.size, .int .i64 en.off, .int .i64 en.time, .bool en.tomb] 38)).heap.size = w.heap.size + 1 := by simp
  have hR : EnAt w0 (w.heap.size + 1) En.zero := by rw [← hw0, ← hq]; exact EnAt.new _ En.zero
  have hE : EnAt w0 w.heap.size en := by rw [← hw0]; exact (EnAt.new w en).block (Below.heap_alloc _ _ _ (by simp))
  have hF : ∀ j, w0.frozen? ⟨w.heap.size + 1, j, none⟩ = false := fun j => by
    rw [← hw0, ← hq]
    exact World.frozen?_alloc_at _ _ _ _ rfl
  have HX := h.later hb0
  have HAT : Hid (Calls Try.prog 42 #[.pointer (some ⟨gx, 0, none⟩), .string key] w0 fun e w' => e = .returned (.int .i64 (atL key l)) ∧ ∃ n, w' = w0.drewN n) := xatOf gx _ l r key w0 HX (by unfold maxLen; omega)
  have hgl := h.lt
  obtain ⟨e1, h1, h2⟩ := at_found h.srt hf
  rw [e1] at HAT
  obtain ⟨g, rfl, rfl, -⟩ := h.at h1
  have hggl : g < w.heap.size := h.row.lt
  have hng : ¬ gx = g := fun e => h.ne (by rw [e])
  have HX0 : Hid (XDirAt w0 gx (.slice (some ⟨g, 0, none⟩) l.length cap) l (some g)) := HX
  have HR0 : Hid (EnAt w0 (w.heap.size + 1) En.zero ∧ ∀ j, w0.frozen? ⟨w.heap.size + 1, j, none⟩ = false) := ⟨hR, hF⟩
  have HE0 : Hid (EnAt w0 w.heap.size en) := hE
  have HB0 : Hid (Below w.heap.size w w0) := hb0
  have HFD : Hid (findL key l = some x) := hf
  have HAK : Hid (rankL key l < l.length ∧ l.getD (rankL key l) Ke.zero = x) := ⟨h1, h2⟩
  have hki : (rankL key l : Int) < (l.length : Int) := by omega
  have hll := HX.len
  clear h HX hb0 hq hR hE hF hf h1 h2 e1
  go_enter Try.func12, Try.ntmps12
  have c0 := HX0.out.cell
  go_wp2_with fail
  refine HAT.out.mono ?_
  rintro e w' ⟨rfl, nq, rfl⟩
  have hbq : Below w0.heap.size w0 (w0.drewN nq) := below_drewN (Below.refl _ _) nq
  obtain ⟨w1, hw1⟩ : ∃ w1, w0.drewN nq = w1 := ⟨_, rfl⟩
  rw [hw1] at hbq ⊢
  have HX1 : Hid (XDirAt w1 gx (.slice (some ⟨g, 0, none⟩) l.length cap) l (some g)) := HX0.out.later hbq
  obtain ⟨d0, d1, d2, d3, d4, d5, d6⟩ : Kr.CellsAt w1 g (rankL key l * 7) x.r := by
    obtain ⟨g', e, _, hc⟩ := HX1.out.at HAK.out.1
    cases e
    rw [HAK.out.2] at hc
    exact hc
  have c1 := HX1.out.cell
  obtain ⟨xkey, xe⟩ := x
  obtain ⟨x1, x2, x3, x4, x5, x6⟩ := xe
  simp only [Ke.r] at d0 d1 d2 d3 d4 d5 d6
  obtain ⟨w2, hw2⟩ : ∃ w2, w1.alloc (.cells #[.int .i64 x1, .int .i64 x2, .int .i64 x3, .int .i64 x4, .int .i64 x5, .bool x6] 38) = w2 := ⟨_, rfl⟩
  have hb12 : Below w1.heap.size w1 w2 := by rw [← hw2]; exact (Below.refl _ _).alloc (Nat.le_refl _) _
  have hs1 := hbq.size
  have hs2 := hb12.size
  have hb02 : Below w0.heap.size w0 w2 := hbq.trans (hb12.mono hbq.size)
  have HX2 : Hid (XDirAt w2 gx (.slice (some ⟨g, 0, none⟩) l.length cap) l (some g)) := HX1.out.later hb12
  have HOL : Hid (EnAt w2 w1.heap.size ⟨x1, x2, x3, x4, x5, x6⟩) := by rw [← hw2]; exact EnAt.new w1 ⟨x1, x2, x3, x4, x5, x6⟩
  have HE2 : Hid (EnAt w2 w.heap.size en) := HE0.out.block (hb02.block _ (by omega))
  have HR2 : Hid (EnAt w2 (w.heap.size + 1) En.zero ∧ ∀ j, w2.frozen? ⟨w.heap.size + 1, j, none⟩ = false) := ⟨HR0.out.1.block (hb02.block _ (by omega)), fun j => (hb02.frozen (p := ⟨w.heap.size + 1, j, none⟩) (by show w.heap.size + 1 < w0.heap.size; omega)).trans (HR0.out.2 j)⟩
  have HB2 : Hid (Below w.heap.size w w2) := HB0.out.trans (hb02.mono HB0.out.size)
  obtain ⟨q0, q1, q2, q3, q4, q5, q6⟩ : Kr.CellsAt w2 g (rankL key l * 7) (Ke.r ⟨xkey, ⟨x1, x2, x3, x4, x5, x6⟩⟩) := by
    obtain ⟨g', e, _, hc⟩ := HX2.out.at HAK.out.1
    cases e
    rw [HAK.out.2] at hc
    exact hc
  simp only [Ke.r] at q0 q1 q2 q3 q4 q5 q6
  have c2 := HX2.out.cell
  obtain ⟨p0, p1, p2, p3, p4, p5⟩ := HE2.out
  have hfz : ∀ i, i < 7 → w2.frozen? ⟨g, rankL key l * 7 + i, none⟩ = false := fun i hi => HX2.out.row.fz (by have := HAK.out.1; simp; omega)
  have f1 := hfz 1 (by omega)
  have f2 := hfz 2 (by omega)
  have f3 := hfz 3 (by omega)
  have f4 := hfz 4 (by omega)
  have f5 := hfz 5 (by omega)
  have f6 := hfz 6 (by omega)
  have HSE : Hid (XDirAt (w2.setCells g (rankL key l * 7 + 1) [.int .i64 en.seg, .int .i64 en.pos, .int .i64 en.size, .int .i64 en.off, .int .i64 en.time, .bool en.tomb]) gx (.slice (some ⟨g, 0, none⟩) l.length cap) (insL key en l) (some g) ∧ w2.grownBy (w2.setCells g (rankL key l * 7 + 1) [.int .i64 en.seg, .int .i64 en.pos, .int .i64 en.size, .int .i64 en.off, .int .i64 en.time, .bool en.tomb]) (some g)) := HX2.out.setE en HFD.out
  clear hfz hb02 hb12 hbq HX1 HX0 HE0 HR0 HAK HFD HAT hw1
  generalize rankL key l = k at *
  go_wp2
  go_region
  generalize hw3' : World.drew _ = w3
  have hw3 : (w2.setCells g (k * 7 + 1) [.int .i64 en.seg, .int .i64 en.pos, .int .i64 en.size, .int .i64 en.off, .int .i64 en.time, .bool en.tomb]).drew = w3 := hw3'
  have HX3 : Hid (XDirAt w3 gx (.slice (some ⟨g, 0, none⟩) l.length cap) (insL key en l) (some g)) := by rw [← hw3]; exact HSE.out.1.later (Below.drew (Below.refl _ _))
  have hg3 : w2.grownBy w3 (some g) := by rw [← hw3]; exact grow_trans HSE.out.2 (below_grow (Below.drew (Below.refl _ _)) none) (.inr (.inl rfl))
  clear hw3 hw3' HSE
  have hne1 : ¬ w1.heap.size = g := by omega
  have hne2 : ¬ w.heap.size + 1 = g := by omega
  obtain ⟨o0, o1, o2, o3, o4, o5⟩ : EnAt w3 w1.heap.size ⟨x1, x2, x3, x4, x5, x6⟩ := HOL.out.block (hg3.block _ HOL.out.lt (fun e => hne1 (by cases e; rfl)))
  have hbR : w3.heap[w.heap.size + 1]? = w2.heap[w.heap.size + 1]? := hg3.block _ (by omega) (fun e => hne2 (by cases e; rfl))
  obtain ⟨r0, r1, r2, r3, r4, r5⟩ : EnAt w3 (w.heap.size + 1) En.zero := HR2.out.1.block hbR
  simp only [En.zero] at r0 r1 r2 r3 r4 r5
  have hF3 : ∀ j, w3.frozen? ⟨w.heap.size + 1, j, none⟩ = false := fun j => (World.frozen?_of_block (w := w2) (a := ⟨w.heap.size + 1, j, none⟩) hbR).trans (HR2.out.2 j)
  have g0 := hF3 0
  have g1 := hF3 1
  have g2 := hF3 2
  have g3 := hF3 3
  have g4 := hF3 4
  have g5 := hF3 5
  have HG3 : Hid (w2.grownBy w3 (some g)) := hg3
  have HF : Hid (XPut w (putEn w3 (w.heap.size + 1) ⟨x1, x2, x3, x4, x5, x6⟩) gx (some g) (insL key en l) (.slice (some ⟨g, 0, none⟩) l.length cap) (some g)) := by
    have hp := putEn_grow w3 (w.heap.size + 1) ⟨x1, x2, x3, x4, x5, x6⟩
    have hs3 := hg3.size
    refine ⟨?_, ((Chg.ofBelow HB2.out).grown hg3 (fun j e => .inl (.inr e))).grown hp (fun j e => .inr (by cases e; omega)), .inl rfl, (keeps_below HB2.out).trans ((keeps_cell hg3 q0).trans (putEn_keeps _ _ _))⟩
    refine ⟨(World.cell?_of_block (w := w3) (a := ⟨gx, 0, none⟩) (hp.block gx (by omega) (fun e => by cases e; omega))).trans HX3.out.cell, (World.frozen?_of_block (w := w3) (a := ⟨gx, 0, none⟩) (hp.block gx (by omega) (fun e => by cases e; omega))).trans HX3.out.froz, HX3.out.row.kept hp (.inr (fun e => by cases e; omega)), HX3.out.ne, HX3.out.srt, HX3.out.short, HX3.out.len⟩
  clear hF3 hbR hg3 p0 p1 p2 p3 p4 p5 f1 f2 f3 f4 f5 f6 q0 q1 q2 q3 q4 q5 q6 d0 d1 d2 d3 d4 d5 d6 c0 c1 c2
  go_wp2
  refine bodyPost_ret (v := .tuple #[En.v ⟨x1, x2, x3, x4, x5, x6⟩, .bool true, .int .i64 0]) ?_ rfl ⟨rfl, HF.out⟩
  simp only [results, hresXput]
  go_simp
end Go.Proofs.Ytjhbaplnkigifaa
