import Derived.Test.YtelhjdplghpnbabSdO
import Derived.Test.YtelhjdplghpnbabSyE
import Derived.Lib.SliceRun
/-! The program's copyOf. -/
namespace Go.Proofs.Ytelhjdplghpnbab
open Go.RowKit Plain
set_option linter.unusedVariables false
set_option linter.unusedSimpArgs false

set_option maxHeartbeats 4000000 in
set_option maxRecDepth 100000 in
/-- slices.Clone of numbers. -/
theorem scloneOf (cs : List Int) (v : Value) (w : World) (h : IntsAt w v cs) : Calls Try.prog 37 #[v] w fun e w' => ∃ a c r, e = .returned (.slice a cs.length c) ∧ RowO w' (.slice a cs.length c) cs r ∧ (∀ g, r = some g → w.heap.size ≤ g) ∧ Below w.heap.size w w' := by
  obtain ⟨a, cap, rfl, h0, hl, hok, hc⟩ := h
  cases a with
  | none =>
    have hcs : cs = [] := by
      apply Classical.byContradiction
      intro hne
      obtain ⟨b, off, e, -⟩ := hc hne
      cases e
    subst hcs
    simp only [List.length_nil]
    have hq := Lib.run_eql_slice_nil (P := Try.prog) w 35 _ none 0 cap 0 0 Try.underlying35
    simp only [Option.isNone_none] at hq
    go_enter Try.func37, Try.ntmps37
    go_wp2
    go_ret
    exact ⟨none, 0, none, rfl, RowO.nil _, by simp, Below.refl _ _⟩
  | some ad =>
    have hq := Lib.run_eql_slice_nil (P := Try.prog) w 35 _ (some ad) cs.length cap 0 0 Try.underlying35
    obtain ⟨w1, hw1⟩ : ∃ w1, w.alloc (.cells #[] 3) = w1 := ⟨_, rfl⟩
    have b1 : Below w.heap.size w w1 := by rw [← hw1]; exact (Below.refl _ _).alloc (Nat.le_refl _) _
    have HSRC : Hid (Src Try.prog 1 35 (.slice (some ad) cs.length cap) cs.length (ints cs) w1) := srcI (IntsAt.later ⟨_, cap, rfl, h0, hl, hok, hc⟩ b1)
    have HOM : Hid (OwnV w1 (.slice (some ⟨w.heap.size, 0, none⟩) 0 0) [] (some w.heap.size)) := by have := OwnV.made w; rw [hw1] at this; exact this
    have HB1 := Hid.mkT b1
    have hs1 : w1.heap.size = w.heap.size + 1 := by rw [← hw1]; simp
    clear hc hok b1
    obtain ⟨B, hB⟩ : ∃ B, w.heap.size = B := ⟨_, rfl⟩
    rw [hB] at HOM hs1
    go_enter Try.func37, Try.ntmps37
    go_wp2_with (at_builtin; refine wpList_append_ints _ rfl _ _ rfl _ _ [] (ints cs) (some B) rfl rfl ?hOwn ?hSrc ?hLen (.inl (by simp)) ?_)
    case hOwn => exact HOM.out
    case hSrc => rw [ints_len]; exact HSRC.out
    case hLen => rw [ints_len]; simp; omega
    intro v4 w4 g4 ho4 hg4 hr4
    obtain ⟨a4, c4, e4, hc4, -⟩ := ho4.shape
    rw [ints_len] at e4
    subst e4
    go_wp2
    go_ret
    refine ⟨a4, c4, some g4, rfl, RowO.of_own ho4, fun g e => ?_, ?_⟩
    · simp only [Option.some.injEq] at e
      rcases hr4 with e2 | e2
      · first | omega | (simp only [Option.some.injEq] at e2; omega)
      · omega
    · exact HB1.out.grown hg4 HB1.out.size (fun g e => by simp at e; omega)
/-- A queue more of those that have costs of their own, at its place in the row. -/
theorem QMem.fill {base : Nat} {w w' : World} {v : Value} {vs : List Qv} {g : Nat} {fl : List (List Int)} {rs : List (Option Nat)} {x : Qv} {c : List Int} {rc : Option Nat} (h : QMem base w v vs (some g) fl rs) (hn : fl.length < vs.length)
    (hc : RowO w (.slice x.sl.1 c.length x.sl.2.2) c rc) (hcn : ∀ g', rc = some g' → base ≤ g' ∧ g' ≠ g ∧ ∀ j, j < fl.length → rs.getD j none ≠ some g')
    (ho : OwnQv w' v (vs.set fl.length x) (some g)) (hg : w.grownBy w' (some g)) : QMem base w' v (vs.set fl.length x) (some g) (fl ++ [c]) (rs ++ [rc]) := by
  refine ⟨ho, by simp [h.len], by simp; omega, fun j hj => ?_, h.new, fun j hj g' e => ?_, fun j hj g' e => ?_, fun i j hi hj hij g' e => ?_⟩
  · simp only [List.length_append, List.length_cons, List.length_nil] at hj
    rw [getD_set _ _ _ _ _ hn, getD_snoc, getD_snoc]
    by_cases hj1 : j < fl.length
    · rw [if_neg (by omega), if_pos hj1, if_pos (by rw [h.len]; exact hj1)]
      exact (h.cost j hj1).kept hg (fun g' e => h.ap j hj1 g' e)
    · have e : j = fl.length := by omega
      rw [if_pos e, if_neg hj1, if_pos e, if_neg (by rw [h.len]; exact hj1), if_pos (by rw [h.len]; exact e)]
      exact hc.kept hg (fun g' e2 e3 => (hcn g' e2).2.1 (by simpa using e3.symm))
  · simp only [List.length_append, List.length_cons, List.length_nil] at hj
    rw [getD_snoc] at e
    by_cases hj1 : j < fl.length
    · rw [if_pos (by rw [h.len]; exact hj1)] at e; exact h.newc j hj1 g' e
    · rw [if_neg (by rw [h.len]; exact hj1), if_pos (by rw [h.len]; omega)] at e; exact (hcn g' e).1
  · simp only [List.length_append, List.length_cons, List.length_nil] at hj
    rw [getD_snoc] at e
    by_cases hj1 : j < fl.length
    · rw [if_pos (by rw [h.len]; exact hj1)] at e; exact h.ap j hj1 g' e
    · rw [if_neg (by rw [h.len]; exact hj1), if_pos (by rw [h.len]; omega)] at e
      intro e2
      exact (hcn g' e).2.1 (by simpa using e2.symm)
  · simp only [List.length_append, List.length_cons, List.length_nil] at hi hj
    rw [getD_snoc] at e ⊢
    intro e2
    by_cases hi1 : i < fl.length
    · rw [if_pos (by rw [h.len]; exact hi1)] at e
      by_cases hj1 : j < fl.length
      · rw [if_pos (by rw [h.len]; exact hj1)] at e2; exact h.apc i j hi1 hj1 hij g' e e2
      · rw [if_neg (by rw [h.len]; exact hj1), if_pos (by rw [h.len]; omega)] at e2; exact (hcn g' e2).2.2 i hi1 e
    · rw [if_neg (by rw [h.len]; exact hi1), if_pos (by rw [h.len]; omega)] at e
      by_cases hj1 : j < fl.length
      · rw [if_pos (by rw [h.len]; exact hj1)] at e2; exact (hcn g' e).2.2 j hj1 e2
      · omega
/-- The row has turned at a place behind these. -/
theorem QMem.beyond {base : Nat} {w w' : World} {v : Value} {vs : List Qv} {g : Nat} {fl : List (List Int)} {rs : List (Option Nat)} (h : QMem base w v vs (some g) fl rs) {i : Nat} (hi : fl.length ≤ i) (hiv : i < vs.length) {x : Qv} (ho : OwnQv w' v (vs.set i x) (some g)) (k : w.grownBy w' (some g)) : QMem base w' v (vs.set i x) (some g) fl rs := by
  refine ⟨ho, h.len, by simpa using h.le, fun j hj => ?_, h.new, h.newc, h.ap, h.apc⟩
  rw [getD_set _ _ _ _ _ hiv, if_neg (by omega)]
  exact (h.cost j hj).kept k (fun g' e2 e3 => h.ap j hj g' e2 e3)
/-- A new row of queues. -/
theorem made_q (w : World) (n : Nat) (hn : n ≤ 32) : (Instr.makeSlice 22 (.int .i64 n) (.int .i64 n)).run Try.prog w = .ok (.slice (some ⟨w.heap.size, 0, none⟩) n n) (w.alloc (.cells (madeCells Qv.zero.agg.cells (n * 4)) 37)) ∧ OwnQv (w.alloc (.cells (madeCells Qv.zero.agg.cells (n * 4)) 37)) (.slice (some ⟨w.heap.size, 0, none⟩) n n) (List.replicate n Qv.zero) (some w.heap.size) := by
  obtain ⟨i, hi, hz0, hz1, hz2⟩ := info_parts Try.info37
  constructor
  · have := run_make (P := Try.prog) w 22 37 i _ Try.underlying22 hi hz0 .i64 .i64 n n (by omega) (Int.le_refl _) (by rw [hz2]; omega) (by omega)
    rw [hz1] at this
    simpa using this
  · have hsz : (madeCells Qv.zero.agg.cells (n * 4)).size = n * 4 := size_madeCells _ _
    have hcell : ∀ j, (w.alloc (.cells (madeCells Qv.zero.agg.cells (n * 4)) 37)).cell? ⟨w.heap.size, j, none⟩ = (madeCells Qv.zero.agg.cells (n * 4))[j]? := fun j => World.cell?_alloc_at _ _ _ _ rfl
    refine .inr ⟨w.heap.size, n, rfl, by simp, by simp, by simp, by simp [maxLen]; omega, fun j hj => World.frozen?_alloc_at _ _ _ _ rfl, fun j hj => ?_, fun j hj => ?_⟩
    · rw [hcell, Array.getElem?_eq_getElem (by omega)]; rfl
    · rw [List.length_replicate] at hj
      rw [hcell]
      obtain ⟨q, r, hq, hr, rfl⟩ : ∃ q r, q < n ∧ r < 4 ∧ j = q * 4 + r := ⟨j / 4, j % 4, by omega, by omega, by omega⟩
      rw [vcells_get _ q r (by simpa using hq) hr, Array.getElem?_eq_getElem (by omega)]
      have e1 : (List.replicate n Qv.zero).getD q Qv.zero = Qv.zero := by simp [List.getD_eq_getElem?_getD, hq]
      rw [e1]
      have e2 : (madeCells Qv.zero.agg.cells (n * 4))[q * 4 + r]'(by omega) = Qv.zero.agg.cells[(q * 4 + r) % 4]! := by
        unfold madeCells
        simp [show Qv.zero.agg.cells.size = 4 from rfl]
      rw [e2, show (q * 4 + r) % 4 = r by omega]
      rcases (by omega : r = 0 ∨ r = 1 ∨ r = 2 ∨ r = 3) with rfl | rfl | rfl | rfl <;> rfl
/-- What copyOf answers. -/
def CopQ (l : List Qu) (w : World) (e : Ending) (w' : World) : Prop := ∃ g vs rs, e = .returned (.slice (some ⟨g, 0, none⟩) l.length l.length) ∧ QMem w.heap.size w' (.slice (some ⟨g, 0, none⟩) l.length l.length) vs (some g) (l.map (·.costs)) rs ∧ vs.length = l.length ∧ (∀ j, j < l.length → (vs.getD j Qv.zero).id = (l.getD j Qu.zero).id ∧ (vs.getD j Qv.zero).quantum = (l.getD j Qu.zero).quantum ∧ (vs.getD j Qv.zero).deficit = (l.getD j Qu.zero).deficit ∧ (vs.getD j Qv.zero).sl.2.1 = (l.getD j Qu.zero).costs.length) ∧ Below w.heap.size w w'
/-- Within its loop. -/
structure CoL (w u : World) (g i : Nat) (l : List Qu) (vs : List Qv) (rs : List (Option Nat)) : Prop where
  mem : QMem w.heap.size u (.slice (some ⟨g, 0, none⟩) l.length l.length) vs (some g) ((l.take i).map (·.costs)) rs
  len : vs.length = l.length
  same : ∀ j, j < i → (vs.getD j Qv.zero).id = (l.getD j Qu.zero).id ∧ (vs.getD j Qv.zero).quantum = (l.getD j Qu.zero).quantum ∧ (vs.getD j Qv.zero).deficit = (l.getD j Qu.zero).deficit ∧ (vs.getD j Qv.zero).sl.2.1 = (l.getD j Qu.zero).costs.length
  below : Below w.heap.size w u
theorem CoL.flen {w u : World} {g i : Nat} {l : List Qu} {vs : List Qv} {rs : List (Option Nat)} (hi : i ≤ l.length) : ((l.take i).map (·.costs)).length = i := by simp; omega
theorem CoL.cp {w u : World} {g i : Nat} {l : List Qu} {vs : List Qv} {rs : List (Option Nat)} (h : CoL w u g i l vs rs) (hi : i < l.length) (x : Qv) : CoL w (u.setCells g (i * 4) x.cells) g i l (vs.set i x) rs := by
  have hf : ((l.take i).map (·.costs)).length = i := by simp; omega
  have hg : u.grownBy (u.setCells g (i * 4) x.cells) (some g) := grow_setCells u g (i * 4) x.cells
  have hiv : i < vs.length := by rw [h.len]; exact hi
  refine ⟨h.mem.beyond (by omega) hiv (h.mem.row.putAll hiv x) hg, by simp [h.len], fun j hj => ?_, h.below.grown hg h.below.size (fun g' e => by simp at e; subst e; exact h.mem.new _ rfl)⟩
  rw [getD_set _ _ _ _ _ hiv, if_neg (by omega)]
  exact h.same j hj
theorem CoL.later {w u u' : World} {g i : Nat} {l : List Qu} {vs : List Qv} {rs : List (Option Nat)} (h : CoL w u g i l vs rs) (hb : Below u.heap.size u u') : CoL w u' g i l vs rs := ⟨h.mem.later hb, h.len, h.same, below_of h.below hb⟩
theorem CoL.more {w u u1 : World} {g i : Nat} {l : List Qu} {vs : List Qv} {rs : List (Option Nat)} (h : CoL w u g i l vs rs) (hi : i < l.length) (hb : Below u.heap.size u u1) {a : Option Addr} {c : Nat} {rc : Option Nat} (hr : RowO u1 (.slice a (l.getD i Qu.zero).costs.length c) (l.getD i Qu.zero).costs rc) (hn : ∀ g', rc = some g' → u.heap.size ≤ g')
    (hx : (vs.getD i Qv.zero).id = (l.getD i Qu.zero).id ∧ (vs.getD i Qv.zero).quantum = (l.getD i Qu.zero).quantum ∧ (vs.getD i Qv.zero).deficit = (l.getD i Qu.zero).deficit) :
    CoL w (u1.setCell ⟨g, i * 4 + 3, none⟩ (.slice a (l.getD i Qu.zero).costs.length c)) g (i + 1) l (vs.set i ⟨(vs.getD i Qv.zero).id, (vs.getD i Qv.zero).quantum, (vs.getD i Qv.zero).deficit, (a, (l.getD i Qu.zero).costs.length, c)⟩) (rs ++ [rc]) := by
  have h1 := h.later hb
  have hf : ((l.take i).map (·.costs)).length = i := by simp; omega
  have hiv : i < vs.length := by rw [h.len]; exact hi
  have hg : u1.grownBy (u1.setCell ⟨g, i * 4 + 3, none⟩ (.slice a (l.getD i Qu.zero).costs.length c)) (some g) := grow_setT u1 g _ _
  obtain ⟨l1, l2⟩ := h.mem.lts
  have hgl := l1 g rfl
  have hm := h1.mem.fill (x := ⟨(vs.getD i Qv.zero).id, (vs.getD i Qv.zero).quantum, (vs.getD i Qv.zero).deficit, (a, (l.getD i Qu.zero).costs.length, c)⟩) (c := (l.getD i Qu.zero).costs) (rc := rc) (w' := u1.setCell ⟨g, i * 4 + 3, none⟩ (.slice a (l.getD i Qu.zero).costs.length c)) (by omega) hr (fun g' e => by
    have := hn g' e
    have := h.below.size
    refine ⟨by omega, by omega, fun j hj e2 => ?_⟩
    have := l2 j hj g' e2
    omega) (by rw [hf]; exact h1.mem.row.putSl hiv (a, (l.getD i Qu.zero).costs.length, c)) hg
  rw [hf] at hm
  have he : (l.take i).map (·.costs) ++ [(l.getD i Qu.zero).costs] = (l.take (i + 1)).map (·.costs) := by
    rw [List.take_succ_eq_append_getElem hi, List.map_append]
    simp [List.getD_eq_getElem?_getD, hi]
  rw [he] at hm
  refine ⟨hm, by simp [h.len], fun j hj => ?_, h1.below.grown hg h1.below.size (fun g' e => by simp at e; subst e; exact h.mem.new _ rfl)⟩
  rw [getD_set _ _ _ _ _ hiv]
  by_cases e : j = i
  · rw [if_pos e, e]; exact ⟨hx.1, hx.2.1, hx.2.2, rfl⟩
  · rw [if_neg e]; exact h.same j (by omega)
set_option maxHeartbeats 4000000 in
set_option maxRecDepth 100000 in
theorem qcopyOfOf (l : List Qu) (v : Value) (w : World) (h : QsAt w v l) (hl : l.length ≤ 32) : Calls Try.prog 26 #[v] w (CopQ l w) := by
  obtain ⟨a, cap, rfl, -⟩ := h.shape
  have HC : Hid (∀ i, i < l.length → ∃ b off ca cc, a = some ⟨b, off, none⟩ ∧ b < w.heap.size ∧ (∀ u, Below w.heap.size w u → Qv.CellsAt u b (off + i * 4) ⟨(l.getD i Qu.zero).id, (l.getD i Qu.zero).quantum, (l.getD i Qu.zero).deficit, ca, (l.getD i Qu.zero).costs.length, cc⟩ ∧ IntsAt u (.slice ca (l.getD i Qu.zero).costs.length cc) (l.getD i Qu.zero).costs)) := fun i hi => by
    obtain ⟨b, off, ca, cc, e, h1, h2⟩ := h.at hi
    exact ⟨b, off, ca, cc, e, (h1 w (Below.refl _ _)).1.lt, fun u hu => h1 u hu⟩
  obtain ⟨hmk, hown⟩ := made_q w l.length hl
  obtain ⟨w1, hw1⟩ : ∃ w1, w.alloc (.cells (madeCells Qv.zero.agg.cells (l.length * 4)) 37) = w1 := ⟨_, rfl⟩
  rw [hw1] at hmk hown
  obtain ⟨g, hg⟩ : ∃ g, w.heap.size = g := ⟨_, rfl⟩
  have HL0 : Hid (CoL w w1 g 0 l (List.replicate l.length Qv.zero) []) := by
    have hb1 : Below w.heap.size w w1 := by rw [← hw1]; exact (Below.refl _ _).alloc (Nat.le_refl _) _
    rw [hg] at hown
    refine ⟨⟨hown, rfl, by simp, by simp, fun g' e => by simp at e; omega, by simp, by simp, by simp⟩, by simp, fun j hj => by omega, hb1⟩
  rw [hg] at hmk
  clear h hown hw1
  go_enter Try.func26, Try.ntmps26
  go_wp2
  go_loopw [10] (fun i u => ∃ k : Nat, k ≤ l.length ∧ i = .int .i64 k ∧ ∃ vs rs, Hid (CoL w u g k l vs rs)) (fun i _ => l.length - (intOf i).toNat)
  case atStart => exact ⟨0, by omega, rfl, _, _, HL0⟩
  case round =>
    obtain ⟨k, hk, rfl, vs, rs, HL⟩ := hrel
    clear HL0 hmk
    by_cases hlt : k < l.length
    · obtain ⟨b, off, ca, cc, rfl, hbl, hcu⟩ := HC.out k hlt
      obtain ⟨⟨c0, c1, c2, c3⟩, -⟩ := hcu wr HL.out.below
      simp only at c0 c1 c2 c3
      have hki : (k : Int) < (l.length : Int) := by omega
      obtain ⟨Q, hQ⟩ : ∃ Q, l.getD k Qu.zero = Q := ⟨_, rfl⟩
      have HX := Hid.mkT hQ
      rw [hQ] at c0 c1 c2 c3 hcu
      obtain ⟨xi, xq, xd, cs⟩ := Q
      simp only at c0 c1 c2 c3 hcu
      obtain ⟨N, hN⟩ : ∃ N, cs.length = N := ⟨_, rfl⟩
      rw [hN] at c3 hcu
      have HN := Hid.mkT hN
      clear hQ hN
      have hgl : g < wr.heap.size := HL.out.mem.lts.1 g rfl
      have hne : b ≠ g := by omega
      have hkv : k < vs.length := by rw [HL.out.len]; exact hlt
      have HO := Hid.mkT HL.out.mem.row
      have hcg := HO.out.at (j := k) hkv
      obtain ⟨k0, k1, k2, k3⟩ := hcg
      have f0 := HO.out.fz (j := k * 4) (by omega)
      have f1 := HO.out.fz (j := k * 4 + 1) (by omega)
      have f2 := HO.out.fz (j := k * 4 + 2) (by omega)
      have f3 := HO.out.fz (j := k * 4 + 3) (by omega)
      obtain ⟨w2, hw2⟩ : ∃ w2, (((wr.setCell ⟨g, k * 4, none⟩ (.int .i64 xi)).setCell ⟨g, k * 4 + 1, none⟩ (.int .i64 xq)).setCell ⟨g, k * 4 + 2, none⟩ (.int .i64 xd)).setCell ⟨g, k * 4 + 3, none⟩ (.slice ca N cc) = w2 := ⟨_, rfl⟩
      have HL2 : Hid (CoL w w2 g k l (vs.set k ⟨xi, xq, xd, (ca, N, cc)⟩) rs) := by
        have := HL.out.cp hlt ⟨xi, xq, xd, (ca, N, cc)⟩
        rw [← setQ4] at this
        simp only at this
        rw [hw2] at this
        exact this
      obtain ⟨⟨-, -, -, d3⟩, hin⟩ := hcu w2 HL2.out.below
      simp only at d3
      have HCL := Hid.mkT (scloneOf cs _ w2 hin)
      rw [HN.out] at HCL
      clear hcu hin HO HL
      go_wp2_with fail
      refine HCL.out.mono ?_
      rintro e w3 ⟨a3, c3', r3, rfl, hrow3, hnew3, hb3⟩
      have HL3 : Hid (∃ vs' rs', CoL w (w3.setCell ⟨g, k * 4 + 3, none⟩ (.slice a3 N c3')) g (k + 1) l vs' rs') := by
        have hx : (vs.set k ⟨xi, xq, xd, (ca, N, cc)⟩).getD k Qv.zero = ⟨xi, xq, xd, (ca, N, cc)⟩ := by rw [getD_set _ _ _ _ _ hkv, if_pos rfl]
        have := HL2.out.more hlt hb3 (a := a3) (c := c3') (rc := r3) (by rw [HX.out]; simp only; rw [HN.out]; exact hrow3) hnew3 (by rw [HX.out, hx]; exact ⟨rfl, rfl, rfl⟩)
        rw [HX.out] at this
        simp only [HN.out] at this
        exact ⟨_, _, this⟩
      have HO3 := Hid.mkT (HL2.out.later hb3).mem.row
      have hkv2 : k < (vs.set k (⟨xi, xq, xd, (ca, N, cc)⟩ : Qv)).length := by simpa using hkv
      obtain ⟨-, -, -, k3⟩ := HO3.out.at (j := k) hkv2
      have f3 := HO3.out.fz (j := k * 4 + 3) (by omega)
      clear HO3 HL2 HCL hrow3 hnew3 hb3
      go_wp2
      go_roundw
      case rel =>
        obtain ⟨vs', rs', h'⟩ := HL3.out
        exact ⟨k + 1, by omega, by go_num, vs', rs', h'⟩
      case measure => simp only [intOf]; omega
    · obtain rfl : k = l.length := by omega
      have HF : Hid (CopQ l w (.returned (.slice (some ⟨g, 0, none⟩) l.length l.length)) wr) := by
        have h := HL.out
        have hm := h.mem
        rw [List.take_length] at hm
        exact ⟨g, vs, rs, rfl, hm, h.len, h.same, h.below⟩
      clear HL
      go_wp2
      go_ret
      exact HF.out
end Go.Proofs.Ytelhjdplghpnbab
