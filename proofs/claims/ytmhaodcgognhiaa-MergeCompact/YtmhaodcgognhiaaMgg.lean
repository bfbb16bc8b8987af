import Derived.Test.YtmhaodcgognhiaaMgf
import Derived.Test.YtmhaodcgognhiaaMgb
/-! merge: young; the last offset of each key; what Compact answers. -/
namespace Go.Proofs.Ytmhaodcgognhiaa
open Go.RowKit Plain Go.WideMaps Go.Maps
set_option linter.unusedVariables false
set_option linter.unusedSimpArgs false

theorem youngOf (t now hz : Int) (ht : I64 t) (hn : 0 ≤ now ∧ now ≤ 9223372036854775807) (hh : 0 ≤ hz ∧ hz ≤ 1099511627776) (w : World) : Calls Try.prog 23 #[.int .i64 t, .int .i64 now, .int .i64 hz] w fun e w' => e = .returned (.bool (decide (now < t + hz))) ∧ w' = w := by
  unfold I64 at ht
  by_cases h1 : t > 0
  · have hw1 : wrap64 (9223372036854775807 - t) = 9223372036854775807 - t := by unfold wrap64; omega
    by_cases h2 : hz > 9223372036854775807 - t
    · have HE : Hid (decide (now < t + hz) = true) := by unfold Hid; simp; omega
      go_enter Try.func23, Try.ntmps23
      go_wp2
      go_ret
      exact ⟨by rw [HE.out]; rfl, rfl⟩
    · have hw2 : wrap64 (t + hz) = t + hz := by unfold wrap64; omega
      go_enter Try.func23, Try.ntmps23
      go_wp2
      go_ret
      exact ⟨rfl, rfl⟩
  · have hw2 : wrap64 (t + hz) = t + hz := by unfold wrap64; omega
    go_enter Try.func23, Try.ntmps23
    go_wp2
    go_ret
    exact ⟨rfl, rfl⟩

theorem kzero2 (w : World) : (zeroValue 2).run Try.prog w = .ok (.int .i64 0) w := by kernel_rfl
def LastO {H : Type} (st : List Rc) (k : Nat) (D : DataW H) : Prop :=
  Maps.IsMap D ∧ ∀ j, j < k → (∀ m, j < m → m < k → rk st m ≠ rk st j) → D.atKey (klit (rk st j)) (.lit (.int .i64 0)) = .lit (.int .i64 (st.getD j Rc.none).o)
theorem LastO.zero {H : Type} (st : List Rc) : LastO (H := H) st 0 (.map []) := ⟨⟨_, rfl⟩, fun j hj => by omega⟩
theorem LastO.step {H : Type} {st : List Rc} {k : Nat} {D : DataW H} (h : LastO st k D) : LastO st (k + 1) (D.put (klit (rk st k)) (.lit (.int .i64 (st.getD k Rc.none).o))) := by
  obtain ⟨h1, h2⟩ := h
  refine ⟨h1.put _ _, fun j hj hl => ?_⟩
  by_cases e : j = k
  · subst e
    exact Maps.atKey_put_same h1 (klit_key _) _ _
  · rw [Maps.atKey_put_other (fun e2 => hl k (by omega) (by omega) (klit_inj e2).symm)]
    exact h2 j (by omega) (fun m a b => hl m a (by omega))
theorem LastO.found {H : Type} {st : List Rc} {D : DataW H} (h : LastO st st.length D) (hr : ∀ i j, i < j → j < st.length → (st.getD i Rc.none).o < (st.getD j Rc.none).o) {i : Nat} (hi : i < st.length) {c : Int} (hc : D.atKey (klit (rk st i)) (.lit (.int .i64 0)) = .lit (.int .i64 c)) : (c == (st.getD i Rc.none).o) = lastB st i := by
  obtain ⟨j, h1, h2, h3, h4⟩ := last_of st st.length i hi (by omega)
  have := h.2 j h2 (fun m a b => h4 m a b)
  rw [h3, hc] at this
  injection this with this
  injection this with this
  by_cases hl : Last st i
  · have e := (lastB_iff st i).mpr hl
    have : j = i := by
      rcases Nat.lt_or_ge i j with h5 | h5
      · exact absurd h3 (hl j h5 h2)
      · omega
    subst this
    rw [e, beq_iff_eq]
    assumption
  · have e : lastB st i = false := by
      cases hb : lastB st i with
      | false => rfl
      | true => exact absurd ((lastB_iff st i).mp hb) hl
    rw [e, beq_eq_false_iff_ne]
    rintro rfl
    have : j = i := by
      rcases Nat.lt_or_ge i j with h5 | h5
      · have := hr i j h5 h2; omega
      · omega
    subst this
    exact hl h4

def posL (se la : List Rc) : Nat → Nat
  | 0 => 0
  | 1 => se.length
  | _ => se.length + la.length
theorem TwoL.pickP {w : World} {G : Nat} {v0 v1 : Value} {se la : List Rc} (h : TwoL w G v0 v1 se la) {k : Nat} (hk : k < 2) : ∃ v st, w.cell? ⟨G, k, none⟩ = some v ∧ RecsAt w v st ∧ posL se la (k + 1) = posL se la k + st.length ∧ (∀ j, j < st.length → (se ++ la).getD (posL se la k + j) Rc.none = st.getD j Rc.none) ∧ posL se la k ≤ 2199023255000 := by
  have hcl : se.length ≤ 2199023255000 := by obtain ⟨_, _, _, h, _⟩ := h.r0; exact h
  rcases (by omega : k = 0 ∨ k = 1) with rfl | rfl
  · exact ⟨v0, se, h.c0, h.r0, by simp [posL], fun j hj => by simp [posL, List.getElem?_append_left hj], by simp [posL]⟩
  · exact ⟨v1, la, h.c1, h.r1, by simp [posL], fun j hj => by simp [posL, List.getElem?_append_right], by simpa [posL] using hcl⟩

set_option maxHeartbeats 2000000 in
theorem lastOffsOf {H : Type} (G : Nat) (v0 v1 : Value) (se la : List Rc) (w : World) (h : TwoL w G v0 v1 se la) :
    Calls Try.prog 25 #[.slice (some ⟨G, 0, none⟩) 2 2] w fun e w' => e = .returned (.map (some w.heap.size)) ∧ (∃ D : DataW H, w'.ownsMap Try.prog 9 (plainElem Try.prog 2) w.heap.size (se ++ la).length D ∧ LastO (se ++ la) (se ++ la).length D) ∧ Below w.heap.size w w' := by
  have HT : Hid (TwoL w G v0 v1 se la) := h
  clear h
  have hmm := @run_makeMap Try.prog
  go_enter Try.func25, Try.ntmps25
  go_wp2
  go_loopw [11] (fun s10 wr => ∃ (k : Nat) (D : DataW H), k ≤ 2 ∧ s10 = .int .i64 k ∧ wr.ownsMap Try.prog 9 (plainElem Try.prog 2) w.heap.size (posL se la k) D ∧ LastO (se ++ la) (posL se la k) D ∧ Below w.heap.size w wr) (fun i _ => 2 - (intOf i).toNat)
  case atStart => exact ⟨0, _, by omega, rfl, World.ownsMap_made _ _ _ _, LastO.zero _, (Below.refl _ _).alloc (Nat.le_refl _) _⟩
  case round =>
    obtain ⟨k, D, hk, rfl, hown, hld, hbl⟩ := hrel
    have HO : Hid (wr.ownsMap Try.prog 9 (plainElem Try.prog 2) w.heap.size (posL se la k) D) := hown
    have HL : Hid (LastO (se ++ la) (posL se la k) D) := hld
    have HB : Hid (Below w.heap.size w wr) := hbl
    have hbs := hown.lt
    clear hown hld hbl
    by_cases hlt : k < 2
    · obtain ⟨v, st, hcv0, hst, hpos, hget, hple⟩ := HT.out.pickP hlt
      have hcv : wr.cell? ⟨G, k, none⟩ = some v := by rw [World.cell?_of_block (w := w) (a := ⟨G, k, none⟩) (HB.out.block G (cell_lt HT.out.c0))]; exact hcv0
      have HP : Hid (posL se la (k + 1) = posL se la k + st.length) := hpos
      have HG : Hid (∀ j, j < st.length → (se ++ la).getD (posL se la k + j) Rc.none = st.getD j Rc.none) := hget
      obtain ⟨a, cap, rfl, hcl, hok, hcells⟩ := hst
      have HOK : Hid (∀ x ∈ st, x.Ok) := hok
      have HC : Hid (st ≠ [] → ∃ b off, a = some ⟨b, off, none⟩ ∧ ∀ j, j < st.length → CellsAt w b (off + j * 7) (st.getD j Rc.none)) := hcells
      clear hcells hpos hget hok hcv0
      generalize hp : posL se la k = p at HO HL HP HG hple
      have hd : decide ((k : Int) < 2) = true := by simp; omega
      go_wp2
      clear hd
      go_loopw [17] (fun sj wx => ∃ (j : Nat) (D : DataW H), j ≤ st.length ∧ sj = .int .i64 j ∧ wx.ownsMap Try.prog 9 (plainElem Try.prog 2) w.heap.size (p + j) D ∧ LastO (se ++ la) (p + j) D ∧ Below w.heap.size w wx) (fun i _ => st.length - (intOf i).toNat)
      case atStart => exact ⟨0, D, by omega, rfl, HO.out, HL.out, HB.out⟩
      case round =>
        obtain ⟨j, D, hj, rfl, hown, hld, hbl⟩ := hrel
        have HO : Hid (wr.ownsMap Try.prog 9 (plainElem Try.prog 2) w.heap.size (p + j) D) := hown
        have HL : Hid (LastO (se ++ la) (p + j) D) := hld
        have HB : Hid (Below w.heap.size w wr) := hbl
        have hbs := hown.lt
        clear hown hld hbl
        by_cases hjl : j < st.length
        · have hne : st ≠ [] := by rintro rfl; simp at hjl
          obtain ⟨b, off, rfl, hc⟩ := HC.out hne
          have hck := hc j hjl
          have hck' := hck.block (HB.out.block b hck.lt)
          have hkey : keyOf Try.prog 9 (.string (st.getD j Rc.none).key) = some (klit (st.getD j Rc.none).key) := keyOf_string_mk Try.underlying9 (HOK.out (st.getD j Rc.none) (by simp [hjl])).key
          have hOk := (HOK.out (st.getD j Rc.none) (by simp [hjl])).o
          have HS : Hid (LastO (se ++ la) (p + j + 1) (D.put (klit (st.getD j Rc.none).key) (.lit (.int .i64 (st.getD j Rc.none).o)))) := by
            have h1 := HL.out.step
            unfold rk at h1
            rw [HG.out j hjl] at h1
            exact h1
          generalize st.getD j Rc.none = x at hck' hkey HS hOk
          obtain ⟨xk, xo, xt, xp, xq, xkey, xval⟩ := x
          obtain ⟨c0, c1, c2, c3, c4, c5, c6⟩ := hck'
          simp only at c0 c1 c2 c3 c4 c5 c6 hkey HS hOk
          unfold I64 at hOk
          clear hck hc hne
          go_wp2_with (first
            | (at_mapUpdate; refine wpList_mapUpdate_own _ rfl _ _ _ 42 rfl 9 2 klaw Try.underlying42 _ w.heap.size (p + j) _ rfl (HO.out.alloc _) (by unfold maxLen; omega) _ _ _ rfl rfl hkey _ [] (plainElem_int Try.underlying2 (WalkArith.wf_i64 (by omega))) ?_)
            | go_in)
          intro w1 hown1 hgrow1
          have HO1 : Hid (w1.ownsMap Try.prog 9 (plainElem Try.prog 2) w.heap.size (p + (j + 1)) (D.put (klit xkey) (.lit (.int .i64 xo)))) := hown1
          have HN1 : Hid (Below w.heap.size w w1) := by
            have h1 := HB.out.alloc (Nat.le_of_lt hbs) (.cells #[.int .i64 xk, .int .i64 xo, .int .i64 xt, .int .i64 xp, .int .i64 xq, .string xkey, .string xval] 33)
            exact h1.trans (grow_below hgrow1 (by simp; omega) (fun g hg => by simp at hg; omega))
          clear hown1 hgrow1 c0 c1 c2 c3 c4 c5 c6 hkey
          go_wp2
          go_roundw
          case rel => exact ⟨j + 1, _, by omega, by go_num, HO1.out, HS.out, HN1.out⟩
          case measure => simp [intOf]; omega
        · obtain rfl : j = st.length := by omega
          have HO2 : Hid (wr.ownsMap Try.prog 9 (plainElem Try.prog 2) w.heap.size (posL se la (k + 1)) D) := by unfold Hid; rw [HP.out]; exact HO.out
          have HL2 : Hid (LastO (se ++ la) (posL se la (k + 1)) D) := by unfold Hid; rw [HP.out]; exact HL.out
          clear HC HO HL
          go_wp2
          go_roundw
          case rel => exact ⟨k + 1, D, by omega, by go_num, HO2.out, HL2.out, HB.out⟩
          case measure => simp [intOf]; omega
    · obtain rfl : k = 2 := by omega
      have e2 : posL se la 2 = (se ++ la).length := by simp [posL]
      have HO2 : Hid (wr.ownsMap Try.prog 9 (plainElem Try.prog 2) w.heap.size (se ++ la).length D) := by unfold Hid; rw [← e2]; exact HO.out
      have HL2 : Hid (LastO (se ++ la) (se ++ la).length D) := by unfold Hid; rw [← e2]; exact HL.out
      clear HO HL e2
      go_wp2
      go_ret
      exact ⟨rfl, ⟨D, HO2.out, HL2.out⟩, HB.out⟩
end Go.Proofs.Ytmhaodcgognhiaa
