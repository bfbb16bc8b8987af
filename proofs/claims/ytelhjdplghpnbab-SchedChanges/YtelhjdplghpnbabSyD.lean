import Derived.Test.YtelhjdplghpnbabSdW
import Derived.Test.YtelhjdplghpnbabSdJp
import Derived.Lib.QuietBelow
/-! What the program's Check asks. -/
namespace Go.Proofs.Ytelhjdplghpnbab
open Go.RowKit Plain
set_option linter.unusedVariables false
set_option linter.unusedSimpArgs false

set_option maxHeartbeats 1000000 in
theorem qisQuantumOf (z : Int) (w : World) : Calls Try.prog 21 #[.int .i64 z] w fun e w' => e = .returned (.bool (decide (1 ≤ z) && decide (z ≤ 65536))) ∧ w' = w := by
  by_cases h1 : 1 ≤ z
  · by_cases h2 : z ≤ 65536
    · go_enter Try.func21, Try.ntmps21
      go_wp2
      go_ret
      exact ⟨by simp [h1, h2], rfl⟩
    · go_enter Try.func21, Try.ntmps21
      go_wp2
      go_ret
      exact ⟨by simp [h1, h2], rfl⟩
  · go_enter Try.func21, Try.ntmps21
    go_wp2
    go_ret
    exact ⟨by simp; omega, rfl⟩
set_option maxHeartbeats 1000000 in
theorem qisCostOf (z : Int) (w : World) : Calls Try.prog 29 #[.int .i64 z] w fun e w' => e = .returned (.bool (decide (1 ≤ z) && decide (z ≤ 1048576))) ∧ w' = w := by
  by_cases h1 : 1 ≤ z
  · by_cases h2 : z ≤ 1048576
    · go_enter Try.func29, Try.ntmps29
      go_wp2
      go_ret
      exact ⟨by simp [h1, h2], rfl⟩
    · go_enter Try.func29, Try.ntmps29
      go_wp2
      go_ret
      exact ⟨by simp [h1, h2], rfl⟩
  · go_enter Try.func29, Try.ntmps29
    go_wp2
    go_ret
    exact ⟨by simp; omega, rfl⟩
set_option maxHeartbeats 1000000 in
theorem qwaitsOf (i q d : Int) (a : Option Addr) (n c : Nat) (w : World) : Calls Try.prog 31 #[.agg #[.int .i64 i, .int .i64 q, .int .i64 d, .slice a n c]] w fun e w' => e = .returned (.bool (decide (0 < n))) ∧ Below w.heap.size w w' := by
  by_cases h1 : 0 < n
  · have h2 : (0 : Int) < (n : Int) := by omega
    go_enter Try.func31, Try.ntmps31
    go_wp2
    go_ret
    exact ⟨by simp [h1], (Below.refl _ _).alloc (Nat.le_refl _) _⟩
  · have h2 : n = 0 := by omega
    subst h2
    go_enter Try.func31, Try.ntmps31
    go_wp2
    go_ret
    exact ⟨by simp, (Below.refl _ _).alloc (Nat.le_refl _) _⟩
/-- Is it somebody's turn? -/
def someB (n : Nat) (z : Int) (f : Bool) : Bool := if n = 0 then decide (z = 0) && !f else decide (0 ≤ z) && decide (z < n)
set_option maxHeartbeats 2000000 in
theorem qisSomeonesTurnOf (a : Option Addr) (n cap : Nat) (z : Int) (f : Bool) (w : World) : Calls Try.prog 19 #[.agg #[.slice a n cap, .int .i64 z, .bool f]] w fun e w' => e = .returned (.bool (someB n z f)) ∧ Below w.heap.size w w' := by
  have HB : Hid (Below w.heap.size w (w.alloc (.cells #[.slice a n cap, .int .i64 z, .bool f] 24))) := (Below.refl _ _).alloc (Nat.le_refl _) _
  by_cases h0 : n = 0
  · subst h0
    by_cases hz : z = 0
    · subst hz
      have HA : Hid (someB 0 0 f = !f) := by unfold Hid someB; simp
      cases f with
      | true =>
        go_enter Try.func19, Try.ntmps19
        go_wp2
        go_ret
        exact ⟨by rw [HA.out]; rfl, HB.out⟩
      | false =>
        go_enter Try.func19, Try.ntmps19
        go_wp2
        go_ret
        exact ⟨by rw [HA.out]; rfl, HB.out⟩
    · have HA : Hid (someB 0 z f = false) := by unfold Hid someB; simp [hz]
      go_enter Try.func19, Try.ntmps19
      go_wp2
      go_ret
      exact ⟨by rw [HA.out]; rfl, HB.out⟩
  · have h0z : ¬ (n : Int) = 0 := by omega
    by_cases h1 : 0 ≤ z
    · by_cases h2 : z < n
      · have HA : Hid (someB n z f = true) := by unfold Hid someB; simp [h0, h1, h2]
        go_enter Try.func19, Try.ntmps19
        go_wp2
        go_ret
        exact ⟨by rw [HA.out]; rfl, HB.out⟩
      · have HA : Hid (someB n z f = false) := by unfold Hid someB; simp [h0, h1, h2]
        go_enter Try.func19, Try.ntmps19
        go_wp2
        go_ret
        exact ⟨by rw [HA.out]; rfl, HB.out⟩
    · have HA : Hid (someB n z f = false) := by unfold Hid someB; simp [h0, h1]
      go_enter Try.func19, Try.ntmps19
      go_wp2
      go_ret
      exact ⟨by rw [HA.out]; rfl, HB.out⟩
/-- Do the ids rise, from 0 on? -/
def riseTo (l : List Qu) (k : Nat) : Prop := ∀ j, j < k → 0 ≤ (l.getD j Qu.zero).id ∧ (0 < j → (l.getD (j - 1) Qu.zero).id < (l.getD j Qu.zero).id)
def lastId (l : List Qu) (k : Nat) : Int := if k = 0 then -1 else (l.getD (k - 1) Qu.zero).id
theorem rise_more {l : List Qu} {k : Nat} (h : riseTo l k) (hk : lastId l k < (l.getD k Qu.zero).id) : riseTo l (k + 1) := by
  intro j hj
  by_cases e : j = k
  · subst e
    unfold lastId at hk
    by_cases h0 : j = 0
    · rw [if_pos h0] at hk; exact ⟨by omega, fun x => by omega⟩
    · rw [if_neg h0] at hk
      have := (h (j - 1) (by omega)).1
      exact ⟨by omega, fun _ => hk⟩
  · exact h j (by omega)
set_option maxHeartbeats 4000000 in
set_option maxRecDepth 100000 in
theorem qidsRiseOf (l : List Qu) (v : Value) (w : World) (h : QsAt w v l) : Calls Try.prog 20 #[v] w fun e w' => ∃ r : Bool, e = .returned (.bool r) ∧ (r = true ↔ riseTo l l.length) ∧ Below w.heap.size w w' := by
  obtain ⟨a, cap, rfl, hl⟩ := h.shape
  have HC : Hid (∀ i, i < l.length → ∃ b off ca cn cc, a = some ⟨b, off, none⟩ ∧ ∀ u, Below w.heap.size w u → u.cell? ⟨b, off + i * 4, none⟩ = some (.int .i64 (l.getD i Qu.zero).id) ∧ u.cell? ⟨b, off + i * 4 + 1, none⟩ = some (.int .i64 (l.getD i Qu.zero).quantum) ∧ u.cell? ⟨b, off + i * 4 + 2, none⟩ = some (.int .i64 (l.getD i Qu.zero).deficit) ∧ u.cell? ⟨b, off + i * 4 + 3, none⟩ = some (.slice ca cn cc)) := fun i hi => by
    obtain ⟨b, off, ca, cc, e, h1, h2⟩ := h.at hi
    exact ⟨b, off, ca, _, cc, e, fun u hu => ⟨(h1 u hu).1.c0, (h1 u hu).1.c1, (h1 u hu).1.c2, (h1 u hu).1.c3⟩⟩
  clear h
  go_enter Try.func20, Try.ntmps20
  go_wp2
  go_loopw [3, 8] (fun la i u => ∃ k : Nat, k ≤ l.length ∧ i = .int .i64 k ∧ la = .int .i64 (lastId l k) ∧ Hid (riseTo l k) ∧ Hid (Below w.heap.size w u)) (fun _ i _ => l.length - (intOf i).toNat)
  case atStart => exact ⟨0, by omega, rfl, rfl, fun j hj => by omega, Below.refl _ _⟩
  case round =>
    obtain ⟨k, hk, rfl, rfl, HZ, HBW⟩ := hrel
    by_cases hlt : k < l.length
    · obtain ⟨b, off, ca, cn, cc, rfl, hcu⟩ := HC.out k hlt
      obtain ⟨c0, c1, c2, c3⟩ := hcu wr HBW.out
      have HRM : Hid (lastId l k < (l.getD k Qu.zero).id → riseTo l (k + 1)) := rise_more HZ.out
      have HNO : Hid ((l.getD k Qu.zero).id ≤ lastId l k → ¬ riseTo l l.length) := fun hle hr => by
        have := hr k hlt
        unfold lastId at hle
        split at hle
        · omega
        · have := this.2 (by omega); omega
      have HLI : Hid (lastId l (k + 1) = (l.getD k Qu.zero).id) := by unfold Hid lastId; rw [if_neg (by omega)]; rfl
      have HBX : Hid (∀ xi xq xd x, Below w.heap.size w (wr.alloc (.cells #[.int .i64 xi, .int .i64 xq, .int .i64 xd, x] 37))) := fun xi xq xd x => HBW.out.alloc HBW.out.size _
      clear hcu HBW
      have hki : (k : Int) < (l.length : Int) := by omega
      generalize (l.getD k Qu.zero).id = x at *
      generalize lastId l k = y at *
      generalize (l.getD k Qu.zero).quantum = xq at *
      generalize (l.getD k Qu.zero).deficit = xd at *
      by_cases hxy : x ≤ y
      · have HF := Hid.mkT (HNO.out hxy)
        clear HRM HNO
        go_wp2
        go_ret
        exact ⟨false, rfl, by simp only [Bool.false_eq_true, false_iff]; exact HF.out, by first | exact HBX.out _ _ _ _ | (simpa using HBX.out _ _ _ _)⟩
      · have HF := Hid.mkT (HRM.out (by omega))
        clear HRM HNO
        go_wp2
        go_roundw
        case rel => exact ⟨k + 1, by omega, by go_num, by rw [HLI.out], HF.out, HBX.out _ _ _ _⟩
        case measure => simp only [intOf]; omega
    · have hkn : l.length = k := by omega
      go_wp2
      go_ret
      exact ⟨true, rfl, by simp only [true_iff]; rw [hkn]; exact HZ.out, HBW.out⟩
def mostG (t : Tr) (i : Nat) : Int := if (t.q i).costs.length = 0 then 0 else t.most i
set_option maxHeartbeats 4000000 in
set_option maxRecDepth 100000 in
theorem qgreatestDeficitOf (t : Tr) (v : Value) (w : World) (h : TrAt w v t) (i : Nat) (hi : i < t.qs.length) : Calls Try.prog 22 #[turV v t, .int .i64 i] w fun e w' => e = .returned (.int .i64 (mostG t i)) ∧ Below w.heap.size w w' := by
  obtain ⟨l, z, f⟩ := t
  obtain ⟨hrow, hz1, hz2⟩ := h
  simp only at hrow hz1 hz2 hi
  obtain ⟨a, cap, rfl, hl⟩ := hrow.shape
  unfold turV
  simp only
  obtain ⟨w0, hw0⟩ : ∃ w0, w.alloc (.cells #[.slice a l.length cap, .int .i64 z, .bool f] 24) = w0 := ⟨_, rfl⟩
  obtain ⟨B, hB⟩ : ∃ B, w.heap.size = B := ⟨_, rfl⟩
  have HB0 : Hid (Below w.heap.size w w0) := by have := (turBox w (.slice a l.length cap) z f).1; rw [hw0] at this; exact this
  have HM : Hid (∀ u, Below w0.heap.size w0 u → u.cell? ⟨B, 0, none⟩ = some (.slice a l.length cap) ∧ u.cell? ⟨B, 1, none⟩ = some (.int .i64 z) ∧ u.cell? ⟨B, 2, none⟩ = some (.bool f)) := by have := (turBox w (.slice a l.length cap) z f).2; rw [hw0, hB] at this; exact this
  obtain ⟨b, off, ca, cc, rfl, h1, -⟩ := hrow.at hi
  obtain ⟨c0, c1, c2, c3⟩ := (h1 w0 HB0.out).1
  simp only at c0 c1 c2 c3
  have HG : Hid (mostG ⟨l, z, f⟩ i = if (l.getD i Qu.zero).costs.length = 0 then 0 else if f = true ∧ (i : Int) = z then 1114111 else 1048575) := rfl
  clear hrow h1
  generalize mostG ⟨l, z, f⟩ i = G at *
  generalize (l.getD i Qu.zero).costs.length = N at *
  generalize (l.getD i Qu.zero).id = xi at *
  generalize (l.getD i Qu.zero).quantum = xq at *
  generalize (l.getD i Qu.zero).deficit = xd at *
  obtain ⟨m0, m1, m2⟩ := HM.out w0 (Below.refl _ _)
  have hiz : (i : Int) < (l.length : Int) := by omega
  go_enter Try.func22, Try.ntmps22
  go_wp2_with fail
  refine (qwaitsOf xi xq xd ca N cc w0).mono ?_
  rintro e w1 ⟨rfl, hb1⟩
  have HBE : Hid (Below w.heap.size w w1) := below_of HB0.out hb1
  clear m0 m1 m2
  obtain ⟨m0, m1, m2⟩ := HM.out w1 hb1
  by_cases hN : N = 0
  · subst hN
    have HA : Hid (G = 0) := by unfold Hid; rw [HG.out]; simp
    clear HG
    go_wp2
    go_ret
    exact ⟨by rw [HA.out]; rfl, by first | exact HBE.out | (rw [← hB]; exact HBE.out)⟩
  · have hNp : 0 < N := by omega
    have hNd : decide (0 < N) = true := by simpa using hNp
    rw [if_neg hN] at HG
    cases f with
    | false =>
      have HA : Hid (G = 1048575) := by unfold Hid; rw [HG.out, if_neg (by simp)]
      clear HG
      go_wp2
      go_ret
      exact ⟨by rw [HA.out]; rfl, by first | exact HBE.out | (rw [← hB]; exact HBE.out)⟩
    | true =>
      by_cases hz : (i : Int) = z
      · subst hz
        have HA : Hid (G = 1114111) := by unfold Hid; rw [HG.out, if_pos ⟨rfl, rfl⟩]
        clear HG
        go_wp2
        go_ret
        exact ⟨by rw [HA.out]; rfl, by first | exact HBE.out | (rw [← hB]; exact HBE.out)⟩
      · have HA : Hid (G = 1048575) := by unfold Hid; rw [HG.out, if_neg (fun x => hz x.2)]
        clear HG
        go_wp2
        go_ret
        exact ⟨by rw [HA.out]; rfl, by first | exact HBE.out | (rw [← hB]; exact HBE.out)⟩
set_option maxHeartbeats 4000000 in
set_option maxRecDepth 100000 in
theorem qareCostsOf (l : List Int) (v : Value) (w : World) (h : IntsAt w v l) : Calls Try.prog 23 #[v] w fun e w' => e = .returned (.bool (!badL l)) ∧ w' = w := by
  have HO : Hid (∀ k, k < l.length → (l.getD k 0 < 1 ∨ 1048576 < l.getD k 0) → badL l = true) := fun k hk => badL_take hk
  have HF : Hid ((∀ k, k < l.length → 1 ≤ l.getD k 0 ∧ l.getD k 0 ≤ 1048576) → badL l = false) := fun h => badL_false.mpr (fun c hc => by
    obtain ⟨j, hj, rfl⟩ := List.mem_iff_getElem.mp hc
    have := h j hj
    simpa [List.getD_eq_getElem?_getD, hj] using this)
  have hm := h.most
  obtain ⟨a, cap, rfl⟩ : ∃ a cap, v = .slice a l.length cap := by obtain ⟨a, cap, e, _⟩ := h; exact ⟨a, cap, e⟩
  have HC : Hid (∀ i, i < l.length → ∃ b off, a = some ⟨b, off, none⟩ ∧ w.cell? ⟨b, off + i, none⟩ = some (.int .i64 (l.getD i 0))) := fun i hi => by
    obtain ⟨b, off, e, h1, -⟩ := h.cell hi
    exact ⟨b, off, e, h1⟩
  clear h
  generalize badL l = A at *
  go_enter Try.func23, Try.ntmps23
  go_wp2
  go_loopw [7] (fun i u => ∃ k : Nat, k ≤ l.length ∧ i = .int .i64 k ∧ Hid (∀ j, j < k → 1 ≤ l.getD j 0 ∧ l.getD j 0 ≤ 1048576) ∧ u = w) (fun i _ => l.length - (intOf i).toNat)
  case atStart => exact ⟨0, by omega, rfl, fun j hj => by omega, rfl⟩
  case round =>
    obtain ⟨k, hk, rfl, HZ, rfl⟩ := hrel
    by_cases hlt : k < l.length
    · obtain ⟨b, off, rfl, c0⟩ := HC.out k hlt
      have HO1 := Hid.mkT (HO.out k hlt)
      have HN : Hid ((1 ≤ l.getD k 0 ∧ l.getD k 0 ≤ 1048576) → ∀ j, j < k + 1 → 1 ≤ l.getD j 0 ∧ l.getD j 0 ≤ 1048576) := fun e j hj => by
        by_cases e2 : j = k
        · rw [e2]; exact e
        · exact HZ.out j (by omega)
      have hki : (k : Int) < (l.length : Int) := by omega
      generalize l.getD k 0 = x at *
      go_wp2_with fail
      refine (qisCostOf x wr).mono ?_
      rintro e w1 ⟨rfl, rfl⟩
      by_cases hx : 1 ≤ x ∧ x ≤ 1048576
      · have hd : (decide (1 ≤ x) && decide (x ≤ 1048576)) = true := by simp [hx.1, hx.2]
        rw [hd]
        have HN2 := Hid.mkT (HN.out hx)
        clear HN HO1
        go_wp2
        go_roundw
        case rel => exact ⟨k + 1, by omega, by go_num, HN2.out, by first | rfl | trivial⟩
        case measure => simp only [intOf]; omega
      · have hd : (decide (1 ≤ x) && decide (x ≤ 1048576)) = false := by simp; omega
        rw [hd]
        have HA : Hid (A = true) := HO1.out (by omega)
        clear HN HO1
        go_wp2
        go_ret
        exact ⟨by rw [HA.out]; rfl, rfl⟩
    · have hkn : l.length = k := by omega
      have HA : Hid (A = false) := HF.out (by rw [hkn]; exact HZ.out)
      clear HF
      go_wp2
      go_ret
      exact ⟨by rw [HA.out]; rfl, rfl⟩
end Go.Proofs.Ytelhjdplghpnbab
