import Derived.Test.YtgffncbmchimdaaSn
/-! Bytes with marks in the room behind them. -/
namespace Go.Proofs.Ytgffncbmchimdaa
open Go.RowKit Plain
set_option linter.unusedVariables false

def marks (k : Nat) : List Nat := (List.range k).map (200 + ·)
theorem marks_succ (k : Nat) : marks (k + 1) = marks k ++ [200 + k] := by simp [marks, List.range_succ]
theorem marks_len (k : Nat) : (marks k).length = k := by simp [marks]
theorem marks_byte (k : Nat) (h : k ≤ 8) : ∀ c ∈ marks k, c < 256 := by
  intro c hc
  simp [marks] at hc
  omega
theorem marks_get (k j : Nat) (h : j < k) : (marks k).getD j 0 = 200 + j := by simp [marks, h]
theorem wrap_mark (k : Nat) (h : k < 8) : IntKind.u8.wrap (200 + (k : Int)) = ((200 + k : Nat) : Int) := by
  have : ∀ j, j < 8 → IntKind.u8.wrap (200 + ((j : Nat) : Int)) = ((200 + j : Nat) : Int) := by decide
  exact this k h

theorem roomy (vb : Value) (l : List Nat) (w : World) (hb : BytesAt w vb l) (hl : l.length ≤ 140737488351232) :
    Calls Try.prog 24 #[vb] w fun e w' => ∃ g cap, e = .returned (.slice (some ⟨g, 0, none⟩) l.length cap) ∧ Own w' (.slice (some ⟨g, 0, none⟩) (l.length + 8) cap) (l ++ marks 8) (some g) ∧ w.heap.size ≤ g ∧ Below w.heap.size w w' := by
  have HB : Hid (BytesAt w vb l) := hb
  obtain ⟨a0, cap0, rfl, _⟩ := hb
  go_enter Try.func24, Try.ntmps24
  go_wp2_with (at_builtin; refine wpList_append_row _ rfl _ _ 27 27 rfl Try.underlying27 _ _ [] l (some w.heap.size) rfl rfl ?hOwn ?hByte ?hSrc ?hLen ?_)
  case hOwn => exact Own.empty w 5
  case hByte => exact HB.out.byte
  case hSrc => exact src_of Try.underlying27 (HB.out.later ((Below.refl _ _).alloc (Nat.le_refl _) _))
  case hLen => simp; omega
  intro v3 w3 r3 ho3 hg3 hr3 hn3
  have HB3 : Hid (Below w.heap.size w w3) := grow_below (grow_trans (World.grownBy_alloc w _ none) hg3 (.inr (.inr ⟨_, rfl, Nat.le_refl _⟩))) (Nat.le_refl _) (by simp)
  obtain ⟨q3, HO3, HQ3⟩ : ∃ q3, Hid (Own w3 v3 (l ++ marks 0) (some q3)) ∧ Hid (w.heap.size ≤ q3) := by
    have e : l ++ marks 0 = l := by simp [marks]
    rw [e]
    rcases hr3 with rfl | rfl
    · exact ⟨_, ho3, Nat.le_refl _⟩
    · exact ⟨_, ho3, by unfold Hid; simp⟩
  clear ho3 hg3 hr3 hn3
  go_wp2
  go_loopw [3, 4] (fun b i wr => ∃ (k q : Nat), k ≤ 8 ∧ i = .int .i64 k ∧ Own wr b (l ++ marks k) (some q) ∧ w.heap.size ≤ q ∧ Below w.heap.size w wr) (fun _ i _ => 8 - (intOf i).toNat)
  case atStart => exact ⟨0, q3, by omega, rfl, HO3.out, HQ3.out, HB3.out⟩
  case round =>
    obtain ⟨k, q, hk, rfl, ho, hq, hbl⟩ := hrel
    have HBL : Hid (Below w.heap.size w wr) := hbl
    have HQ : Hid (w.heap.size ≤ q) := hq
    clear HB3 HO3 HQ3 hbl hq
    by_cases hlt : k < 8
    · have HO : Hid (Own wr u3 (l ++ marks k) (some q)) := ho
      have hwm := wrap_mark k hlt
      clear ho
      go_wp2_with (at_builtin; refine wpList_append_row _ rfl _ _ 27 27 rfl Try.underlying27 _ _ (l ++ marks k) [200 + k] (some q) rfl rfl ?hOwn ?hByte ?hSrc ?hLen ?_)
      case hOwn => exact HO.out.later ((Below.refl _ _).alloc (Nat.le_refl _) _)
      case hByte => simp; omega
      case hSrc => exact src_one wr (200 + k) 27 5 Try.underlying27
      case hLen => simp [marks_len]; omega
      intro v' w1 r' ho' hg' hr' hn'
      have HB1 : Hid (Below w.heap.size w w1) := (HBL.out.alloc HBL.out.size _).trans (grow_below hg' (by have := HBL.out.size; simp; omega) (by intro g hg; simp at hg; subst hg; exact HQ.out))
      obtain ⟨q1, HO1, HQ1⟩ : ∃ q1, Hid (Own w1 v' (l ++ marks (k + 1)) (some q1)) ∧ Hid (w.heap.size ≤ q1) := by
        rw [marks_succ, ← List.append_assoc]
        have := HBL.out.size
        rcases hr' with rfl | rfl
        · exact ⟨_, by unfold Hid; simpa using ho', HQ.out⟩
        · refine ⟨_, by unfold Hid; simpa using ho', ?_⟩
          unfold Hid
          first | omega | (simp; omega)
      clear ho' hg' hr' hn' hwm
      go_wp2
      go_roundw
      case rel => exact ⟨k + 1, q1, by omega, by go_num, HO1.out, HQ1.out, HB1.out⟩
      case measure => simp [intOf]; omega
    · obtain rfl : k = 8 := by omega
      obtain ⟨cap, rfl, h1, h2⟩ := ho.shape
      have e : (l ++ marks 8).length = l.length + 8 := by simp [marks_len]
      have HO : Hid (Own wr (.slice (some ⟨q, 0, none⟩) (l.length + 8) cap) (l ++ marks 8) (some q)) := by
        have := ho
        rw [e] at this
        exact this
      rw [e] at h1
      unfold maxLen at h2
      clear ho
      rw [e]
      clear e
      go_wp2
      go_ret
      exact ⟨q, cap, rfl, HO.out, HQ.out, HBL.out⟩

theorem kept (g cap : Nat) (l m : List Nat) (vb : Value) (w : World) (hb : BytesAt w vb l) (hn : m.length = l.length) (ho : Own w (.slice (some ⟨g, 0, none⟩) (l.length + 8) cap) (m ++ marks 8) (some g)) :
    Calls Try.prog 25 #[.slice (some ⟨g, 0, none⟩) l.length cap, vb] w fun e w' => e = .returned (.bool (decide (m = l))) ∧ ∃ n, w' = w.drewN n := by
  have HB : Hid (BytesAt w vb l) := hb
  obtain ⟨a0, cap0, rfl, h0, h00, _⟩ := hb
  have HX : Hid (BytesAt w (.slice (some ⟨g, 0, none⟩) l.length cap) m) := by
    have := (ho.bytes.take m.length (by simp))
    rw [List.take_left, hn] at this
    exact this
  obtain ⟨hby, hr⟩ := ho
  rcases hr with ⟨e, _⟩ | ⟨g', cap', e, e2, hg, h1, h2, h3, h4, h5⟩
  · simp at e
  simp at e; subst e
  simp only [Value.slice.injEq, true_and] at e2
  obtain ⟨-, rfl⟩ := e2
  have HC : Hid (∀ k, k < 8 → w.cell? ⟨g, l.length + k, none⟩ = some (.int .u8 ((200 + k : Nat) : Int))) := fun k hk => by
    have := h5 (l.length + k) (by simp [marks_len]; omega)
    rw [getD_right _ _ (by omega), hn, Nat.add_sub_cancel_left, marks_get 8 k hk] at this
    exact this
  have hc8 : l.length + 8 ≤ cap := by simp [marks_len] at h1; omega
  unfold maxLen at h2
  clear hby h3 h4 h5 h1 hn h0 h00
  go_enter Try.func25, Try.ntmps25
  go_wp2
  go_loopw [6] (fun i w' => ∃ k n : Nat, w' = w.drewN n ∧ k ≤ 8 ∧ i = .int .i64 k) (fun i _ => 8 - (intOf i).toNat)
  case atStart => exact ⟨0, 0, rfl, by omega, rfl⟩
  case round =>
    obtain ⟨k, n, rfl, hk, rfl⟩ := hrel
    by_cases hlt : k < 8
    · have hcell := HC.out k hlt
      have hwm := wrap_mark k hlt
      go_wp2
      go_roundw
      case rel => exact ⟨k + 1, _, rfl, by omega, by go_num⟩
      case measure => simp [intOf]; omega
    · go_wp2_with fail
      refine (sameBytes _ _ m l _ (HX.out.drewN n) (HB.out.drewN n)).mono ?_
      rintro e w1 ⟨rfl, n1, rfl⟩
      go_wp2
      go_ret
      exact ⟨rfl, _, rfl⟩
end Go.Proofs.Ytgffncbmchimdaa
