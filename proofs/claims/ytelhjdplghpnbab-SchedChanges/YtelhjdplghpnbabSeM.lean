import Derived.Test.YtelhjdplghpnbabSeL
import Derived.BigRegion
/-! The law's spoilt. -/
namespace Go.Proofs.Ytelhjdplghpnbab
open Go.RowKit Plain
set_option linter.unusedVariables false
set_option linter.unusedSimpArgs false

theorem OwnQv.some_of {w : World} {a : Option Addr} {n c : Nat} {ts : List Qv} {r : Option Nat} (h : OwnQv w (.slice a n c) ts r) (hp : 0 < ts.length) : ∃ g, a = some ⟨g, 0, none⟩ ∧ r = some g ∧ n = ts.length := by
  rcases h with ⟨_, e, _⟩ | ⟨g, cap, rfl, e, _⟩
  · rw [e] at hp; simp at hp
  · simp only [Value.slice.injEq] at e
    exact ⟨g, e.1, rfl, e.2.1⟩
def SpoP (base n : Nat) (r : Option Nat) (rs : List (Option Nat)) (w : World) (e : Ending) (w' : World) : Prop := ∃ z : Int, e = .returned (.int .i64 z) ∧ 0 ≤ z ∧ Below base w w' ∧ ∀ k, k < w.heap.size → r ≠ some k → (∀ j, j < n → rs.getD j none ≠ some k) → w'.heap[k]? = w.heap[k]?
/-- While the row is made longer. -/
structure SpT (P : Nat → Prop) (base : Nat) (w u : World) (B : Nat) (v : Value) (vs : List Qv) (r : Option Nat) : Prop where
  row : OwnQv u v vs r
  b0 : u.cell? ⟨B, 0, none⟩ = some v
  bf : u.frozen? ⟨B, 0, none⟩ = false
  blt : B < u.heap.size
  below : Below base w u
  lb : r ≠ some B
  new : ∀ g, r = some g → base ≤ g
  bge : base ≤ B
  bw : w.heap.size ≤ B
  fr : ∀ k, k < w.heap.size → P k → u.heap[k]? = w.heap[k]?
  rp : ∀ g, r = some g → g < w.heap.size → ¬ P g
theorem SpT.later {P : Nat → Prop} {base : Nat} {w u u' : World} {B : Nat} {v : Value} {vs : List Qv} {r : Option Nat} (h : SpT P base w u B v vs r) (k : Below u.heap.size u u') : SpT P base w u' B v vs r := by
  have hb := k.block B h.blt
  have hl := h.blt
  have hg := h.bge
  exact ⟨h.row.later k, by rw [World.cell?_of_block (w := u) (a := ⟨B, 0, none⟩) hb]; exact h.b0, by rw [World.frozen?_of_block (w := u) (a := ⟨B, 0, none⟩) hb]; exact h.bf, Nat.lt_of_lt_of_le hl k.size, h.below.grown (below_grow k none) (by omega) (by simp), h.lb, h.new, h.bge, h.bw, fun x hx px => (k.block x (by have := h.below.size; omega)).trans (h.fr x hx px), h.rp⟩
/-- A queue is written over. -/
theorem SpT.put {P : Nat → Prop} {base : Nat} {w u : World} {B : Nat} {v : Value} {vs : List Qv} {g : Nat} (h : SpT P base w u B v vs (some g)) {i : Nat} (hi : i < vs.length) (x : Qv) : SpT P base w ((((u.setCell ⟨g, i * 4, none⟩ (.int .i64 x.id)).setCell ⟨g, i * 4 + 1, none⟩ (.int .i64 x.quantum)).setCell ⟨g, i * 4 + 2, none⟩ (.int .i64 x.deficit)).setCell ⟨g, i * 4 + 3, none⟩ (.slice x.sl.1 x.sl.2.1 x.sl.2.2)) B v (vs.set i x) (some g) ∧ u.grownBy ((((u.setCell ⟨g, i * 4, none⟩ (.int .i64 x.id)).setCell ⟨g, i * 4 + 1, none⟩ (.int .i64 x.quantum)).setCell ⟨g, i * 4 + 2, none⟩ (.int .i64 x.deficit)).setCell ⟨g, i * 4 + 3, none⟩ (.slice x.sl.1 x.sl.2.1 x.sl.2.2)) (some g) := by
  rw [setQ4]
  have kk : u.grownBy (u.setCells g (i * 4) x.cells) (some g) := grow_setCells u g (i * 4) x.cells
  have hb := kk.block B h.blt (fun e => h.lb (by first | exact e | exact e.symm))
  have hl := h.blt
  have hg := h.bge
  exact ⟨⟨h.row.putAll hi x, by rw [World.cell?_of_block (w := u) (a := ⟨B, 0, none⟩) hb]; exact h.b0, by rw [World.frozen?_of_block (w := u) (a := ⟨B, 0, none⟩) hb]; exact h.bf, Nat.lt_of_lt_of_le hl kk.size, h.below.grown kk (by omega) h.new, h.lb, h.new, h.bge, h.bw, fun x hx px => (kk.block x (by have := h.below.size; omega) (fun e => h.rp x (by first | exact e | exact e.symm) hx px)).trans (h.fr x hx px), h.rp⟩, kk⟩
/-- A queue more. -/
theorem SpT.more {P : Nat → Prop} {base : Nat} {w u u' : World} {B : Nat} {v v' : Value} {vs : List Qv} {r : Option Nat} (h : SpT P base w u B v vs r) {x : Qv} {g : Nat} (ho : OwnQv u' v' (vs ++ [x]) (some g)) (k : u.grownBy u' r) (hr : some g = r ∨ g = u.heap.size) : SpT P base w (u'.setCell ⟨B, 0, none⟩ v') B v' (vs ++ [x]) (some g) ∧ u'.cell? ⟨B, 0, none⟩ = some v ∧ u'.frozen? ⟨B, 0, none⟩ = false := by
  have hb := k.block B h.blt (fun e => h.lb (by first | exact e | exact e.symm))
  have hl := h.blt
  have hg := h.bge
  have c0 : u'.cell? ⟨B, 0, none⟩ = some v := by rw [World.cell?_of_block (w := u) (a := ⟨B, 0, none⟩) hb]; exact h.b0
  have f0 : u'.frozen? ⟨B, 0, none⟩ = false := by rw [World.frozen?_of_block (w := u) (a := ⟨B, 0, none⟩) hb]; exact h.bf
  have k2 : u'.grownBy (u'.setCell ⟨B, 0, none⟩ v') (some B) := grow_setT u' B 0 v'
  have hgb : g ≠ B := by
    rcases hr with e | e
    · exact fun e2 => h.lb (by rw [← e, e2])
    · omega
  have hs := k.size
  refine ⟨⟨ho.kept k2 (.inr (by simpa using hgb)), World.cell?_setCell_same _ _ _ c0, by rw [World.frozen?_setCell]; exact f0, Nat.lt_of_lt_of_le (Nat.lt_of_lt_of_le hl hs) k2.size, (h.below.grown k (by omega) h.new).grown k2 (by omega) (fun q e => by simp at e; omega), by simpa using hgb, fun q e => ?_, h.bge, h.bw, fun x hx px => (k2.block x (by have := h.below.size; omega) (by have := h.bw; simp; omega)).trans ((k.block x (by have := h.below.size; omega) (fun e => h.rp x (by first | exact e | exact e.symm) hx px)).trans (h.fr x hx px)), fun q e hq => ?_⟩, c0, f0⟩
  · simp only [Option.some.injEq] at e
    subst e
    rcases hr with e | e
    · exact h.new _ e.symm
    · omega
  · simp only [Option.some.injEq] at e
    subst e
    rcases hr with e | e
    · exact h.rp _ e.symm hq
    · have := h.below.size; omega
theorem set_self {α : Type} (l : List α) (d : α) (i : Nat) : l.set i (l.getD i d) = l := by
  refine List.ext_getElem (by simp) (fun j h1 h2 => ?_)
  by_cases e : i = j
  · subst e; simp [List.getD_eq_getElem?_getD, h2]
  · simp [e]
/-- Which row the slice that is made longer is. -/
def SpC (H0 base : Nat) (B g N : Nat) (fl : List (List Int)) (rs : List (Option Nat)) (i : Nat) (sa : Option Addr) (sc : Nat) (aa : Option Addr) (cc : Nat) (lst : List Int) (rl : Option Nat) : Prop := (aa = sa ∧ cc = sc ∧ rl = rs.getD i none ∧ lst.take N = fl.getD i []) ∨ (∃ q, rl = some q ∧ (base ≤ q ∧ H0 ≤ q) ∧ q ≠ B ∧ q ≠ g ∧ ∀ j, j < fl.length → rs.getD j none ≠ some q)
theorem Spo.longer {base : Nat} {w u u' : World} {B : Nat} {v v6 : Value} {vs : List Qv} {g g6 N m : Nat} {fl : List (List Int)} {rs : List (Option Nat)} (h : Spo base w u B v vs (some g) fl rs) {i : Nat} (hi : i < fl.length) (hN : (fl.getD i []).length = N) {sa aa : Option Addr} {sc cc : Nat} (hsa : (vs.getD i Qv.zero).sl.1 = sa) (hsc : (vs.getD i Qv.zero).sl.2.2 = sc) {lst : List Int} {x : Int} {rl : Option Nat} (hl : lst.length = N + m) (hC : SpC w.heap.size base B g N fl rs i sa sc aa cc lst rl)
    (ho : RowO u' v6 (lst ++ [x]) (some g6)) (k : u.grownBy u' rl) (hr : some g6 = rl ∨ g6 = u.heap.size) (hk : RowO u' (.slice aa (N + m) cc) lst rl) (hs : (some g6 = rl ∧ ∃ a c, Value.slice aa (N + m) cc = .slice a lst.length c ∧ v6 = .slice a (lst.length + [x].length) c) ∨ g6 = u.heap.size) :
    ∃ a6 c6, v6 = .slice a6 (N + (m + 1)) c6 ∧ RowO u' (.slice a6 (N + (m + 1)) c6) (lst ++ [x]) (some g6) ∧ (lst ++ [x]).length = N + (m + 1) ∧ Spo base w u' B v vs (some g) fl rs ∧ SpC w.heap.size base B g N fl rs i sa sc a6 c6 (lst ++ [x]) (some g6) := by
  have hl2 : (lst ++ [x]).length = N + (m + 1) := by simp [hl]; omega
  have hspo : Spo base w u' B v vs (some g) fl rs := by
    rcases hC with ⟨rfl, rfl, rfl, ht⟩ | ⟨q, rfl, q1, q2, q3, q4⟩
    · have hrow : RowO u' (.slice aa (fl.getD i []).length cc) (fl.getD i []) (rs.getD i none) := by
        by_cases e : N + m = 0
        · have hN0 : N = 0 := by omega
          have hlst : lst = [] := List.length_eq_zero_iff.mp (by omega)
          rw [e, hlst] at hk
          have hf : fl.getD i [] = [] := List.length_eq_zero_iff.mp (by omega)
          rw [hf]
          exact hk
        · have := hk.pre N (by omega) (by omega)
          rw [ht] at this
          rw [hN]
          exact this
      have := h.costs hi (c := fl.getD i []) k (by rw [hsa, hsc]; exact hrow) rfl
      rw [set_self] at this
      exact this
    · exact h.kept k (fun g' e e2 => by simp at e e2; omega) (fun j hj g' e e2 => q4 j hj (by rw [e]; exact e2.symm)) (by simpa using q2) (fun g' e => by simp at e; omega) (fun g' e => by simp at e; omega)
  obtain ⟨a6, c6, e6, -, -⟩ := ho.shape
  rw [hl2] at e6
  subst e6
  refine ⟨a6, c6, rfl, ho, hl2, hspo, ?_⟩
  rcases hs with ⟨e1, a, c, e2, e3⟩ | e1
  · simp only [Value.slice.injEq] at e2 e3
    obtain ⟨rfl, -, rfl⟩ := e2
    obtain ⟨rfl, -, rfl⟩ := e3
    rcases hC with ⟨c1, c2, c3, ht⟩ | ⟨q, rfl, q1, q2, q3, q4⟩
    · refine .inl ⟨c1, c2, e1.trans c3, ?_⟩
      rw [List.take_append_of_le_length (by omega)]
      exact ht
    · exact .inr ⟨q, e1, q1, q2, q3, q4⟩
  · obtain ⟨l1, l2⟩ := h.mem.lts
    have hb := h.blt
    have hg := h.bge
    exact .inr ⟨g6, rfl, ⟨by omega, by have := h.below.size; omega⟩, by omega, by have := l1 g rfl; omega, fun j hj e => by have := l2 j hj g6 e; omega⟩
set_option maxHeartbeats 16000000 in
set_option maxRecDepth 100000 in
theorem lspoiltOf (base : Nat) (t : Tr) (vs : List Qv) (r : Option Nat) (rs : List (Option Nat)) (v : Value) (w : World) (h : TurN base w v t vs r rs) (hbw : base ≤ w.heap.size) (h32 : t.qs.length ≤ 32) : Calls Try.prog 17 #[turV v t] w (SpoP base t.qs.length r rs w) := by
  obtain ⟨l, z, f⟩ := t
  obtain ⟨a, cap, rfl⟩ := h.reads.shape
  unfold turV
  simp only
  obtain ⟨w0, hw0⟩ : ∃ w0, w.alloc (.cells #[.slice a l.length cap, .int .i64 z, .bool f] 24) = w0 := ⟨_, rfl⟩
  obtain ⟨B, hB⟩ : ∃ B, w.heap.size = B := ⟨_, rfl⟩
  have HS : Hid (Spo base w w0 B (.slice a l.length cap) vs r (l.map (·.costs)) rs) := by
    have b0 := (turBox w (.slice a l.length cap) z f).1
    have x0 := BoxT.new w (.slice a l.length cap) ⟨l, z, f⟩ z f rfl rfl
    rw [hw0] at b0 x0
    rw [hB] at x0
    obtain ⟨l1, l2⟩ := h.mem.lts
    have hlen : vs.length = l.length := h.len
    refine ⟨h.mem.later b0, by simp [hlen], fun j hj => ?_, x0.b0, x0.bf 0 (by omega), x0.lt, ⟨b0.os, b0.tape, b0.output, b0.size, fun k hk => b0.block k (by omega)⟩, ⟨fun e => by have := l1 B e; omega, fun j hj e => by have := l2 j hj B e; omega⟩, by omega, fun j hj => ?_, fun k hk _ _ => b0.block k (by omega)⟩
    · have hj2 : j < l.length := by omega
      rw [(h.same j hj2).2.2.2]
      simp [List.getD_eq_getElem?_getD, hj2, Tr.q]
    · have hj2 : j < l.length := by simpa using hj
      have := (h.ok j hj2).2.2.2.1
      simpa [List.getD_eq_getElem?_getD, hj2, Tr.q] using this
  have HVL : Hid (vs.length = l.length) := h.len
  generalize l.map (·.costs) = fl0 at *
  have h32' : l.length ≤ 32 := h32
  clear h h32
  generalize hnl : l.length = n at *
  clear hnl
  have p0 := HS.out.b0
  go_enter Try.func17, Try.ntmps17
  go_wp2
  go_loopw [4] (fun s4 u => ∃ (i : Nat) (fl : List (List Int)), i ≤ n ∧ s4 = .int .i64 i ∧ Hid (Spo base w u B (.slice a n cap) vs r fl rs) ∧ Hid (Spoilt fl i)) (fun s4 _ => n - (intOf s4).toNat)
  case atStart => exact ⟨0, fl0, by omega, rfl, HS.out, fun j hj => by omega⟩
  case round =>
    obtain ⟨i, fl, hi, rfl, HM, HD⟩ := hrel
    clear p0
    have p0 := HM.out.b0
    have HFL : Hid (fl.length = n) := by unfold Hid; rw [HM.out.len, HVL.out]
    by_cases hin : i < n
    · have hini : (i : Int) < (n : Int) := by omega
      obtain ⟨g, rfl, rfl, -⟩ := HM.out.mem.row.some_of (by rw [HVL.out]; omega)
      obtain ⟨N, hN⟩ : ∃ N, (fl.getD i []).length = N := ⟨_, rfl⟩
      have hNm : N ≤ 17592186044000 := by rw [← hN]; exact HM.out.cl i (by rw [HFL.out]; exact hin)
      have HN := Hid.mkT hN
      clear hN
      go_wp2
      go_loopw [5] (fun s5 u => ∃ (k : Nat) (fl' : List (List Int)), k ≤ N ∧ s5 = .int .i64 k ∧ Hid (Spo base w u B (.slice (some ⟨g, 0, none⟩) n cap) vs (some g) fl' rs) ∧ Hid (Spoilt fl' i) ∧ Hid ((fl'.getD i []).length = N ∧ ∀ j, j < k → (fl'.getD i []).getD j 0 = -1 - (i : Int))) (fun s5 _ => N - (intOf s5).toNat)
      case atStart => exact ⟨0, fl, by omega, rfl, HM.out, HD.out, HN.out, fun j hj => by omega⟩
      case round =>
        obtain ⟨k, fl1, hk, rfl, HM1, HD1, HE1⟩ := hrel
        clear p0
        have p0 := HM1.out.b0
        have HFL1 : Hid (fl1.length = n) := by unfold Hid; rw [HM1.out.len, HVL.out]
        have c3 := HM1.out.cell (j := i) (by rw [HVL.out]; exact hin)
        rw [HE1.out.1] at c3
        by_cases hkN : k < N
        · have hkNi : (k : Int) < (N : Int) := by omega
          obtain ⟨b, off, e1, e2, e3, e4⟩ := HM1.out.set (i := i) (k := k) (by rw [HFL1.out]; exact hin) (by rw [HE1.out.1]; exact hkN) (-1 - (i : Int))
          rw [e1] at c3
          generalize (vs.getD i Qv.zero).sl.2.2 = cc at *
          have HM2 := Hid.mkT e4
          have hif : i < fl1.length := by rw [HFL1.out]; exact hin
          have hkf : k < (fl1.getD i []).length := by rw [HE1.out.1]; exact hkN
          have HD2 : Hid (Spoilt (fl1.set i ((fl1.getD i []).set k (-1 - (i : Int)))) i) := fun j hj => by
            rw [getD_set _ _ _ _ _ hif, if_neg (by omega)]
            exact HD1.out j hj
          have HE2 : Hid (((fl1.set i ((fl1.getD i []).set k (-1 - (i : Int)))).getD i []).length = N ∧ ∀ j, j < k + 1 → ((fl1.set i ((fl1.getD i []).set k (-1 - (i : Int)))).getD i []).getD j 0 = -1 - (i : Int)) := by
            rw [Hid, getD_set _ _ _ _ _ hif, if_pos rfl]
            refine ⟨by rw [List.length_set]; exact HE1.out.1, fun j hj => ?_⟩
            rw [getD_set _ _ _ _ _ hkf]
            by_cases e : j = k
            · rw [if_pos e]
            · rw [if_neg e]; exact HE1.out.2 j (by omega)
          generalize fl1.set i ((fl1.getD i []).set k (-1 - (i : Int))) = fl2 at *
          generalize (fl1.getD i []).getD k 0 = yy at *
          clear e1 e4 HM1 HD1 HE1 HFL1 hif hkf
          go_wp2
          go_roundw
          case rel => exact ⟨k + 1, fl2, by omega, by go_num, HM2.out, HD2.out, HE2.out⟩
          case measure => simp only [intOf]; omega
        · have hkNi : ¬ (k : Int) < (N : Int) := by omega
          have HD3 : Hid (Spoilt fl1 (i + 1)) := fun j hj m hm => by
            by_cases e : j = i
            · subst e
              rw [HE1.out.1] at hm
              exact HE1.out.2 m (by omega)
            · exact HD1.out j (by omega) m hm
          clear HE1
          go_wp2
          go_roundw
          case rel => exact ⟨i + 1, fl1, by omega, by go_num, HM1.out, HD3.out⟩
          case measure => simp only [intOf]; omega
    · have hini : ¬ (i : Int) < (n : Int) := by omega
      have HDA : Hid (Spoilt fl n) := fun j hj => HD.out j (by omega)
      clear HD
      go_wp2
      go_loopw [3, 6] (fun s3 s6 u => ∃ (i : Nat) (S : Int), i ≤ n ∧ s6 = .int .i64 i ∧ s3 = .int .i64 S ∧ 0 ≤ S ∧ S ≤ (i : Int) * 17592186044100 ∧ Hid (Spo base w u B (.slice a n cap) vs r fl rs)) (fun _ s6 _ => n - (intOf s6).toNat)
      case atStart => exact ⟨0, 0, by omega, rfl, rfl, by omega, by omega, HM.out⟩
      case round =>
        obtain ⟨i2, S, hi2, rfl, rfl, hS0, hS1, HM2⟩ := hrel
        clear p0
        have p0 := HM2.out.b0
        by_cases hin2 : i2 < n
        · have hini2 : (i2 : Int) < (n : Int) := by omega
          obtain ⟨g, rfl, rfl, -⟩ := HM2.out.mem.row.some_of (by rw [HVL.out]; omega)
          have c3 := HM2.out.cell (j := i2) (by rw [HVL.out]; exact hin2)
          have hif : i2 < fl.length := by rw [HFL.out]; exact hin2
          have HIF := Hid.mkT hif
          have HRW := Hid.mkT (HM2.out.mem.cost i2 hif)
          obtain ⟨N, hN⟩ : ∃ N, (fl.getD i2 []).length = N := ⟨_, rfl⟩
          have hNm : N ≤ 17592186044000 := by rw [← hN]; exact HM2.out.cl i2 hif
          have HN := Hid.mkT hN
          rw [hN] at c3 HRW
          clear hN hif
          obtain ⟨sa, hsa⟩ : ∃ sa, (vs.getD i2 Qv.zero).sl.1 = sa := ⟨_, rfl⟩
          obtain ⟨sc, hsc⟩ : ∃ sc, (vs.getD i2 Qv.zero).sl.2.2 = sc := ⟨_, rfl⟩
          have HSA := Hid.mkT hsa
          have HSC := Hid.mkT hsc
          rw [hsa, hsc] at c3 HRW
          clear hsa hsc
          go_wp2
          go_loopw [7, 8] (fun s7 s8 u => ∃ (m : Nat) (aa : Option Addr) (cc : Nat) (lst : List Int) (rl : Option Nat), m ≤ 64 ∧ s8 = .int .i64 m ∧ s7 = .slice aa (N + m) cc ∧ Hid (RowO u (.slice aa (N + m) cc) lst rl) ∧ Hid (lst.length = N + m) ∧ Hid (Spo base w u B (.slice (some ⟨g, 0, none⟩) n cap) vs (some g) fl rs) ∧ Hid (SpC w.heap.size base B g N fl rs i2 sa sc aa cc lst rl)) (fun _ s8 _ => 64 - (intOf s8).toNat)
          case atStart => exact ⟨0, sa, sc, fl.getD i2 [], rs.getD i2 none, by omega, rfl, rfl, HRW.out, HN.out, HM2.out, .inl ⟨rfl, rfl, rfl, by rw [← HN.out]; exact List.take_length⟩⟩
          case round =>
            obtain ⟨m, aa, cc, lst, rl, hm, rfl, rfl, HRO, HLL, HM3, HCA⟩ := hrel
            by_cases hm64 : m < 64
            · have hm64i : (m : Int) < 64 := by omega
              have HU1 : Hid (Below wr.heap.size wr (wr.alloc (.cells #[.int .i64 (-99 - (i2 : Int))] 3))) := (Below.refl _ _).alloc (Nat.le_refl _) _
              have HSRC := Hid.mkT (srcOne wr (-99 - (i2 : Int)))
              have HRO1 := Hid.mkT (HRO.out.later HU1.out)
              have HM4 := Hid.mkT (HM3.out.later HU1.out)
              clear c3 p0
              go_wp2_with (at_builtin; refine wpList_append_p _ rfl _ _ rfl _ _ lst [-99 - (i2 : Int)] rl rfl rfl ?hOwn ?hSrc ?hLen (.inr (Nat.succ_pos _)) ?_)
              case hOwn => exact HRO1.out
              case hSrc => exact HSRC.out
              case hLen => rw [HLL.out]; simp; omega
              intro v6 w6 g6 ho6 hg6 hr6 hk6 hs6
              obtain ⟨a6, c6, e6, ho7, hl7, hm7, hc7⟩ := HM4.out.longer HIF.out HN.out HSA.out HSC.out HLL.out HCA.out ho6 hg6 (by simpa using hr6) hk6 (by simpa using hs6)
              subst e6
              have HO7 := Hid.mkT ho7
              have HL7 := Hid.mkT hl7
              have HM7 := Hid.mkT hm7
              have HC7 := Hid.mkT hc7
              clear ho6 hg6 hr6 hk6 hs6 ho7 hl7 hm7 hc7 HRO HLL HM3 HCA HU1 HSRC HRO1 HM4
              go_wp2
              go_roundw
              case rel => exact ⟨m + 1, a6, c6, _, _, by omega, by go_num, rfl, HO7.out, HL7.out, HM7.out, HC7.out⟩
              case measure => simp only [intOf]; omega
            · have hm64i : ¬ (m : Int) < 64 := by omega
              have hme : m = 64 := by omega
              have HME := Hid.mkT hme
              have hsum : 0 ≤ S + ((N + m : Nat) : Int) ∧ S + ((N + m : Nat) : Int) ≤ ((i2 + 1 : Nat) : Int) * 17592186044100 := by push_cast; omega
              have v9 : IntKind.i64.wrap (S + ((N + m : Nat) : Int)) = S + ((N + m : Nat) : Int) := IntWalk.i64_in _ ⟨by omega, by push_cast at hsum ⊢; omega⟩
              have HSUM := Hid.mkT hsum
              clear hsum hme c3 p0
              obtain ⟨M, hM⟩ : ∃ M, N + m = M := ⟨_, rfl⟩
              rw [hM] at v9 HSUM
              rw [hM]
              clear hM
              go_wp2
              go_roundw
              case rel => exact ⟨i2 + 1, S + (M : Int), by omega, by go_num, rfl, HSUM.out.1, HSUM.out.2, HM3.out⟩
              case measure => simp only [intOf]; omega
        · have hini2 : ¬ (i2 : Int) < (n : Int) := by omega
          have HT0 : Hid (SpT (fun k => r ≠ some k ∧ ∀ j, j < n → rs.getD j none ≠ some k) base w wr B (.slice a n cap) vs r) := ⟨HM2.out.mem.row, HM2.out.b0, HM2.out.bf, HM2.out.blt, HM2.out.below, HM2.out.lb.1, HM2.out.mem.new, HM2.out.bge, by omega, fun k hk pk => HM2.out.fr k hk pk.1 (fun j hj => pk.2 j (by rw [HFL.out] at hj; exact hj)), fun g e _ pg => pg.1 e⟩
          have HRr : Hid (∀ k, (r ≠ some k ∧ ∀ j, j < n → rs.getD j none ≠ some k) → (r ≠ some k ∧ ∀ j, j < n → rs.getD j none ≠ some k)) := fun k h => h
          generalize hPP : (fun k => r ≠ some k ∧ ∀ j, j < n → rs.getD j none ≠ some k) = P at *
          have HPP : Hid (∀ k, r ≠ some k → (∀ j, j < n → rs.getD j none ≠ some k) → P k) := fun k h1 h2 => by rw [← hPP]; exact ⟨h1, h2⟩
          clear hPP HRr
          have HR0 : Hid (∀ j, 0 ≤ j → j < n → RowO wr (.slice (vs.getD j Qv.zero).sl.1 (fl.getD j []).length (vs.getD j Qv.zero).sl.2.2) (fl.getD j []) (rs.getD j none)) := fun j _ hj => HM2.out.mem.cost j (by rw [HFL.out]; exact hj)
          have HSL : Hid (∀ j, j < n → (vs.getD j Qv.zero).sl.2.1 = (fl.getD j []).length ∧ (fl.getD j []).length ≤ 17592186044000 ∧ ∀ g, rs.getD j none = some g → r ≠ some g) := fun j hj => ⟨HM2.out.sl j (by rw [HVL.out]; exact hj), HM2.out.cl j (by rw [HFL.out]; exact hj), HM2.out.mem.ap j (by rw [HFL.out]; exact hj)⟩
          clear HM2 HM HS
          go_wp2
          go_loopw [9] (fun s9 u => ∃ (i : Nat) (vs' : List Qv), i ≤ n ∧ s9 = .int .i64 i ∧ Hid (SpT P base w u B (.slice a n cap) vs' r) ∧ Hid (vs'.length = n) ∧ Hid (∀ j, i ≤ j → vs'.getD j Qv.zero = vs.getD j Qv.zero) ∧ Hid (∀ j, i ≤ j → j < n → RowO u (.slice (vs.getD j Qv.zero).sl.1 (fl.getD j []).length (vs.getD j Qv.zero).sl.2.2) (fl.getD j []) (rs.getD j none))) (fun s9 _ => n - (intOf s9).toNat)
          case atStart => exact ⟨0, vs, by omega, rfl, HT0.out, HVL.out, fun _ _ => rfl, HR0.out⟩
          case round =>
            obtain ⟨i3, vs3, hi3, rfl, HT3, HV3, HE3, HR3⟩ := hrel
            clear p0
            have p0 := HT3.out.b0
            by_cases hin3 : i3 < n
            · have hini3 : (i3 : Int) < (n : Int) := by omega
              obtain ⟨g, rfl, rfl, -⟩ := HT3.out.row.some_of (by rw [HV3.out]; omega)
              have hi3v : i3 < vs3.length := by rw [HV3.out]; exact hin3
              obtain ⟨-, -, -, c3⟩ := HT3.out.row.at hi3v
              rw [HE3.out i3 (Nat.le_refl _)] at c3
              obtain ⟨q1, q2, q3⟩ := HSL.out i3 hin3
              rw [q1] at c3
              have HRW := Hid.mkT (HR3.out i3 (Nat.le_refl _) hin3)
              have HSP := Hid.mkT (HDA.out i3 hin3)
              obtain ⟨N, hN⟩ : ∃ N, (fl.getD i3 []).length = N := ⟨_, rfl⟩
              rw [hN] at c3 q2 HRW HSP
              have HN := Hid.mkT hN
              clear hN q1
              obtain ⟨sa, hsa⟩ : ∃ sa, (vs.getD i3 Qv.zero).sl.1 = sa := ⟨_, rfl⟩
              obtain ⟨sc, hsc⟩ : ∃ sc, (vs.getD i3 Qv.zero).sl.2.2 = sc := ⟨_, rfl⟩
              rw [hsa, hsc] at c3 HRW
              clear hsa hsc
              have f0 := HT3.out.row.fz (j := i3 * 4) (by omega)
              have f1 := HT3.out.row.fz (j := i3 * 4 + 1) (by omega)
              have f2 := HT3.out.row.fz (j := i3 * 4 + 2) (by omega)
              have f3 := HT3.out.row.fz (j := i3 * 4 + 3) (by omega)
              obtain ⟨hp, kk⟩ := HT3.out.put hi3v ⟨-5, 0, 0, (none, 0, 0)⟩
              simp only at hp kk
              have HPUT := Hid.mkT hp
              have HR4 : Hid (∀ j, i3 + 1 ≤ j → j < n → RowO ((((wr.setCell ⟨g, i3 * 4, none⟩ (.int .i64 (-5))).setCell ⟨g, i3 * 4 + 1, none⟩ (.int .i64 0)).setCell ⟨g, i3 * 4 + 2, none⟩ (.int .i64 0)).setCell ⟨g, i3 * 4 + 3, none⟩ (.slice none 0 0)) (.slice (vs.getD j Qv.zero).sl.1 (fl.getD j []).length (vs.getD j Qv.zero).sl.2.2) (fl.getD j []) (rs.getD j none)) := fun j h1 h2 => (HR3.out j (by omega) h2).kept kk (fun g' e => (HSL.out j h2).2.2 g' e)
              have HE4 : Hid (∀ j, i3 + 1 ≤ j → (vs3.set i3 ⟨-5, 0, 0, (none, 0, 0)⟩).getD j Qv.zero = vs.getD j Qv.zero) := fun j hj => by
                rw [getD_set _ _ _ _ _ hi3v, if_neg (by omega)]
                exact HE3.out j (by omega)
              have HV4 : Hid ((vs3.set i3 ⟨-5, 0, 0, (none, 0, 0)⟩).length = n) := by rw [Hid, List.length_set]; exact HV3.out
              obtain ⟨d0, d1, d2, -⟩ := HT3.out.row.at hi3v
              clear hp kk q3 hi3v HR3 HE3 HV3
              go_wp2
              go_loopw [10] (fun s10 u => ∃ k : Nat, k ≤ N ∧ s10 = .int .i64 k ∧ u = wr) (fun s10 _ => N - (intOf s10).toNat)
              case atStart => exact ⟨0, by omega, rfl, rfl⟩
              case round =>
                obtain ⟨k, hk, rfl, hu⟩ := hrel
                replace hu := hu.symm
                subst hu
                by_cases hkN : k < N
                · have hkNi : (k : Int) < (N : Int) := by omega
                  obtain ⟨cb, co, e1, -, -, y0, -, -⟩ := HRW.out.set (i := k) (by rw [HN.out]; exact hkN) 0
                  rw [HSP.out k hkN] at y0
                  subst e1
                  go_wp2
                  go_roundw
                  case rel => exact ⟨k + 1, by omega, by go_num, by first | rfl | trivial⟩
                  case measure => simp only [intOf]; omega
                · have hkNi : ¬ (k : Int) < (N : Int) := by omega
                  clear HRW HSP
                  go_wp2
                  go_roundw
                  case rel => exact ⟨i3 + 1, _, by omega, by go_num, HPUT.out, HV4.out, HE4.out, HR4.out⟩
                  case measure => simp only [intOf]; omega
            · have hini3 : ¬ (i3 : Int) < (n : Int) := by omega
              clear HR3 HE3 HDA HSL HR0 HT0
              go_wp2
              go_loopw [11] (fun s11 u => ∃ (m : Nat) (va : Option Addr) (vc : Nat) (vs' : List Qv) (r' : Option Nat), m ≤ 64 ∧ s11 = .int .i64 m ∧ Hid (SpT P base w u B (.slice va (n + m) vc) vs' r') ∧ Hid (vs'.length = n + m)) (fun s11 _ => 64 - (intOf s11).toNat)
              case atStart => exact ⟨0, a, cap, vs3, r, by omega, rfl, HT3.out, HV3.out⟩
              case round =>
                obtain ⟨m, va, vc, vs4, r4, hm, rfl, HT4, HV4⟩ := hrel
                clear p0
                have p0 := HT4.out.b0
                by_cases hm64 : m < 64
                · have hm64i : (m : Int) < 64 := by omega
                  obtain ⟨wA, hwA⟩ : ∃ wA, wr.alloc (.cells #[.int .i64 (-6), .int .i64 0, .int .i64 0, .slice none 0 0] 37) = wA := ⟨_, rfl⟩
                  obtain ⟨G, hG⟩ : ∃ G, wr.heap.size = G := ⟨_, rfl⟩
                  have HBA : Hid (Below wr.heap.size wr wA) := by rw [← hwA]; exact (Below.refl _ _).alloc (Nat.le_refl _) _
                  have HSR : Hid (Src Try.prog 4 22 (.slice (some ⟨G, 0, none⟩) 1 1) [(⟨-6, 0, 0, (none, 0, 0)⟩ : Qv)].length (vcells [⟨-6, 0, 0, (none, 0, 0)⟩]) wA) := by have := src_q wr G hG ⟨-6, 0, 0, (none, 0, 0)⟩; simp only at this; rw [hwA] at this; exact this
                  have HT5 := Hid.mkT (HT4.out.later HBA.out)
                  have p1 := HT5.out.b0
                  go_wp2_with (at_builtin; refine wpList_append_v _ rfl _ _ rfl _ _ vs4 [⟨-6, 0, 0, (none, 0, 0)⟩] r4 rfl rfl ?hOwn ?hSrc ?hLen (.inr (Nat.succ_pos _)) ?_)
                  case hOwn => exact HT5.out.row
                  case hSrc => exact HSR.out
                  case hLen => rw [HV4.out]; simp; omega
                  intro v7 w7 g7 ho7 hg7 hr7
                  obtain ⟨a7, c7, e7, -, -⟩ := ho7.shape
                  have hl7 : (vs4 ++ [(⟨-6, 0, 0, (none, 0, 0)⟩ : Qv)]).length = n + (m + 1) := by rw [List.length_append, HV4.out]; rfl
                  rw [hl7] at e7
                  subst e7
                  obtain ⟨ht8, k0, kf⟩ := HT5.out.more ho7 hg7 (by first | exact hr7 | simpa using hr7)
                  have HT8 := Hid.mkT ht8
                  have HL8 := Hid.mkT hl7
                  clear ho7 hg7 hr7 ht8 hl7 HT4 HT5 HSR HBA HV4 p0 p1
                  go_wp2
                  go_roundw
                  case rel => exact ⟨m + 1, a7, c7, _, _, by omega, by go_num, HT8.out, HL8.out⟩
                  case measure => simp only [intOf]; omega
                · have hm64i : ¬ (m : Int) < 64 := by omega
                  obtain ⟨M, hM⟩ : ∃ M, n + m = M := ⟨_, rfl⟩
                  rw [hM] at p0
                  have v9 : IntKind.i64.wrap (S + (M : Int)) = S + (M : Int) := IntWalk.i64_in _ ⟨by omega, by omega⟩
                  have HF : Hid (SpoP base n r rs w (.returned (.int .i64 (S + (M : Int)))) wr) := ⟨_, rfl, by omega, HT4.out.below, fun k hk h1 h2 => HT4.out.fr k hk (HPP.out k h1 h2)⟩
                  clear hM HT4 HV4
                  go_wp2
                  go_ret
                  exact HF.out
end Go.Proofs.Ytelhjdplghpnbab
