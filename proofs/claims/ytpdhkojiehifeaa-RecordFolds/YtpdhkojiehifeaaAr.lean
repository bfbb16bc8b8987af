import Derived.Test.YtpdhkojiehifeaaCk3
/-! May all of these records be? -/
namespace Go.Proofs.Ytpdhkojiehifeaa
open Go.RowKit Plain
set_option linter.unusedVariables false

def okB (x : Rc) : Bool := chk x == 0

theorem allRight1 (x : Rc) (hx : x.Ok) (w : World) : Calls Try.prog 24 #[x.agg] w fun e w' => e = .returned (.bool (!okB x)) ∧ Below w.heap.size w w' := by
  have HX : Hid x.Ok := hx
  obtain ⟨k, o, t, p, q, key, val⟩ := x
  have HB : Hid (Below w.heap.size w (w.alloc (.cells #[.int .i64 k, .int .i64 o, .int .i64 t, .int .i64 p, .int .i64 q, .string key, .string val] 32))) := (Below.refl _ _).alloc (Nat.le_refl _) _
  clear hx
  unfold Rc.agg
  go_enter Try.func24, Try.ntmps24
  go_wp2_with fail
  refine (checkAny ⟨k, o, t, p, q, key, val⟩ HX.out _).mono ?_
  rintro e w1 ⟨rfl, hb1⟩
  have HB1 : Hid (Below w.heap.size w w1) := below_on HB.out hb1
  clear hb1
  have HE : Hid (okB ⟨k, o, t, p, q, key, val⟩ = (chk ⟨k, o, t, p, q, key, val⟩ == 0)) := rfl
  generalize chk ⟨k, o, t, p, q, key, val⟩ = c at HE
  cases hc : (c == 0) with
  | true =>
    have hc' : c = 0 := by simpa using hc
    subst hc'
    go_wp2
    go_ret
    exact ⟨by rw [HE.out]; rfl, HB1.out⟩
  | false =>
    have hc' : (c != 0) = true := by simpa using hc
    go_wp2
    go_ret
    exact ⟨by rw [HE.out, hc]; rfl, HB1.out⟩

abbrev fnAll : Value := .func (.func 24) #[] #[]
theorem take_snoc_r (st : List Rc) (j : Nat) (h : j < st.length) : st.take (j + 1) = st.take j ++ [st.getD j Rc.none] := by
  rw [List.take_succ_eq_append_getElem h]
  simp [h]

set_option maxHeartbeats 1000000 in
theorem indexAny (v : Value) (st : List Rc) (w : World) (h : RecsAt w v st) :
    Calls Try.prog 30 #[v, fnAll] w fun e w' => ∃ z : Int, e = .returned (.int .i64 z) ∧ decide (z ≥ 0) = !(st.all okB) ∧ Below w.heap.size w w' := by
  obtain ⟨a, cap, rfl, hcl, hok, hcells⟩ := h
  have HC : Hid (st ≠ [] → ∃ b off, a = some ⟨b, off, none⟩ ∧ ∀ j, j < st.length → CellsAt w b (off + j * 7) (st.getD j Rc.none)) := hcells
  have HOK : Hid (∀ x ∈ st, x.Ok) := hok
  clear hcells hok
  go_enter Try.func30, Try.ntmps30
  go_wp2
  go_loopw [8] (fun i wr => ∃ k : Nat, k ≤ st.length ∧ i = .int .i64 k ∧ (st.take k).all okB = true ∧ Below w.heap.size w wr) (fun i _ => st.length - (intOf i).toNat)
  case atStart => exact ⟨0, by omega, rfl, by simp, Below.refl _ _⟩
  case round =>
    obtain ⟨k, hk, rfl, hall, hbl⟩ := hrel
    have HA : Hid ((st.take k).all okB = true) := hall
    have HB : Hid (Below w.heap.size w wr) := hbl
    clear hall hbl
    by_cases hlt : k < st.length
    · have hne : st ≠ [] := by rintro rfl; simp at hlt
      obtain ⟨b, off, rfl, hc⟩ := HC.out hne
      have hck := hc k hlt
      have hck' := hck.block (HB.out.block b hck.lt)
      have HX : Hid (st.getD k Rc.none).Ok := HOK.out (st.getD k Rc.none) (by simp [hlt])
      have HT : Hid (okB (st.getD k Rc.none) = true → (st.take (k + 1)).all okB = true) := fun h => by rw [take_snoc_r st k hlt, List.all_append, HA.out, Bool.true_and, List.all_cons, h]; rfl
      have HF : Hid (okB (st.getD k Rc.none) = false → st.all okB = false) := fun h => by
        rw [List.all_eq_false]
        exact ⟨st.getD k Rc.none, by simp [hlt], by rw [h]; decide⟩
      generalize st.getD k Rc.none = x at hck' HX HT HF
      obtain ⟨xk, xo, xt, xp, xq, xkey, xval⟩ := x
      obtain ⟨c0, c1, c2, c3, c4, c5, c6⟩ := hck'
      simp only at c0 c1 c2 c3 c4 c5 c6
      clear hck hc hne
      go_wp2_with fail
      refine (allRight1 ⟨xk, xo, xt, xp, xq, xkey, xval⟩ HX.out _).mono ?_
      rintro e w1 ⟨rfl, hb1⟩
      have HB1 : Hid (Below w.heap.size w w1) := below_on HB.out hb1
      clear hb1 c0 c1 c2 c3 c4 c5 c6
      cases hb : okB ⟨xk, xo, xt, xp, xq, xkey, xval⟩ with
      | true =>
        have HT1 : Hid ((st.take (k + 1)).all okB = true) := HT.out hb
        clear HT HF
        go_wp2
        go_roundw
        case rel => exact ⟨k + 1, by omega, by go_num, HT1.out, HB1.out⟩
        case measure => simp [intOf]; omega
      | false =>
        have HF1 : Hid (st.all okB = false) := HF.out hb
        clear HT HF
        go_wp2
        go_ret
        exact ⟨_, rfl, by rw [HF1.out]; simp, HB1.out⟩
    · obtain rfl : k = st.length := by omega
      have HA1 : Hid (st.all okB = true) := by have := HA.out; rwa [List.take_length] at this
      clear HC HA
      go_wp2
      go_ret
      exact ⟨_, rfl, by rw [HA1.out]; simp, HB.out⟩

theorem containsAny (v : Value) (st : List Rc) (w : World) (h : RecsAt w v st) : Calls Try.prog 23 #[v, fnAll] w fun e w' => e = .returned (.bool (!(st.all okB))) ∧ Below w.heap.size w w' := by
  have HR : Hid (RecsAt w v st) := h
  obtain ⟨a, cap, rfl, -⟩ := h
  go_enter Try.func23, Try.ntmps23
  go_wp2_with fail
  refine (indexAny _ st w HR.out).mono ?_
  rintro e w1 ⟨z, rfl, hz, hb⟩
  have HZ : Hid (decide (z ≥ 0) = !(st.all okB)) := hz
  have HB : Hid (Below w.heap.size w w1) := hb
  clear hz hb
  go_wp2
  go_ret
  exact ⟨by rw [← HZ.out]; rfl, HB.out⟩

theorem allRightAny (v : Value) (st : List Rc) (w : World) (h : RecsAt w v st) :
    Calls Try.prog 14 #[v] w fun e w' => e = .returned (.bool (st.all okB)) ∧ Below w.heap.size w w' := by
  have HR : Hid (RecsAt w v st) := h
  obtain ⟨a, cap, rfl, -⟩ := h
  go_enter Try.func14, Try.ntmps14
  go_wp2_with fail
  refine (containsAny _ st w HR.out).mono ?_
  rintro e w1 ⟨rfl, hb⟩
  have HB : Hid (Below w.heap.size w w1) := hb
  clear hb
  cases hb : st.all okB with
  | true =>
    go_wp2
    go_ret
    exact ⟨by rw [hb]; rfl, HB.out⟩
  | false =>
    go_wp2
    go_ret
    exact ⟨by rw [hb]; rfl, HB.out⟩
end Go.Proofs.Ytpdhkojiehifeaa
