import Derived.Test.YtklfmgkfcacfkaaOwn
namespace Go.Proofs.Ytklfmgkfcacfkaa
open Go.RowKit Plain
set_option linter.unusedVariables false

theorem or128 (v : Nat) : bits .or .u8 ((v : Int) % 256) 128 = ((v % 128 + 128 : Nat) : Int) := by
  have e : (v : Int) % 256 = ((v % 256 : Nat) : Int) := by omega
  rw [e, show (128 : Int) = ((128 : Nat) : Int) from rfl, u8_or_nat _ _ (by omega) (by omega)]
  congr 1
  have h : v % 256 = v % 128 + 128 * (v / 128 % 2) := by omega
  have h1 : v % 128 < 2 ^ 7 := by omega
  rcases Nat.mod_two_eq_zero_or_one (v / 128) with h2 | h2
  · rw [h, h2, Nat.mul_zero, Nat.add_zero, Nat.or_comm]
    have := Nat.shiftLeft_add_eq_or_of_lt h1 1
    rw [show (1 <<< 7 : Nat) = 128 from rfl] at this
    omega
  · rw [h, h2, Nat.mul_one]
    have := Nat.shiftLeft_add_eq_or_of_lt h1 1
    rw [show (1 <<< 7 : Nat) = 128 from rfl] at this
    rw [Nat.add_comm (v % 128) 128, this, Nat.or_comm, ← Nat.or_assoc, Nat.or_self]


theorem uv_split {v : Nat} {d : List Nat} {u : Nat} (h : uv v = d ++ uv u) (hu : ¬ u < 128) : uv v = (d ++ [u % 128 + 128]) ++ uv (u / 128) := by
  rw [h, uv_ge hu]; simp
theorem uv_split_len {v : Nat} {d : List Nat} {u : Nat} (h : uv v = d ++ uv u) (h10 : (uv v).length ≤ 10) : d.length < 10 := by
  have h1 := congrArg List.length h
  have h2 := uv_pos u
  simp at h1; omega

set_option maxRecDepth 1000000 in
/-- What is appended to a row of bytes of the call's own. -/
theorem appendUvarint (vb : Value) (xs : List Nat) (r : Option Nat) (v : Nat) (w : World) (hv : v < 18446744073709551616) (hown : Own w vb xs r) (hn : xs.length + 10 ≤ 140737488355328) :
    Calls Try.prog 54 #[vb, .int .u64 v] w fun e w' => ∃ v' r', e = .returned v' ∧ Own w' v' (xs ++ uv v) r' ∧ w.grownBy w' r ∧ (r' = r ∨ ∃ g, r' = some g ∧ w.heap.size ≤ g) ∧ r' ≠ none := by
  have h10 := uv_len10 (show v < 2 ^ 64 from hv)
  go_enter Try.func54, Try.ntmps54
  go_wp2
  go_loopw [0, 1] (fun b t wr => ∃ (d : List Nat) (u : Nat) (q : Option Nat), t = .int .u64 u ∧ u < 18446744073709551616 ∧ uv v = d ++ uv u ∧ Own wr b (xs ++ d) q ∧ w.grownBy wr r ∧ (q = r ∨ ∃ g, q = some g ∧ w.heap.size ≤ g)) (fun _ t _ => (intOf t).toNat)
  case atStart => exact ⟨[], v, r, rfl, hv, rfl, by simpa using hown, ⟨rfl, rfl, rfl, Nat.le_refl _, fun _ _ _ => rfl⟩, .inl rfl⟩
  case round =>
    obtain ⟨d, u, q, rfl, hu, hd, ho, hg, hq⟩ := hrel
    have HD : Hid (uv v = d ++ uv u) := hd
    have hd10 := uv_split_len hd h10
    have hlen : (xs ++ d).length + 1 ≤ 140737488355328 := by simp; omega
    clear hd
    by_cases h128 : u < 128
    · have HE : Hid (uv v = d ++ [u]) := by unfold Hid; rw [HD.out, uv_lt h128]
      clear HD
      go_wp2_with (at_builtin; refine wpList_append_row _ rfl _ _ 22 22 rfl Try.underlying22 _ _ (xs ++ d) [u] q rfl rfl ?hOwn ?hByte ?hSrc ?hLen ?_)
      case hOwn => exact ho.later ((Below.refl _ _).alloc (Nat.le_refl _) _)
      case hByte => simp; omega
      case hSrc => exact src_one wr u 22 5 Try.underlying22
      case hLen => exact hlen
      intro v' w1 r' ho' hg' hr' hn'
      have HO : Hid (Own w1 v' (xs ++ (d ++ [u])) r') := ho'
      have HN : Hid (r' ≠ none) := hn'
      clear ho' hn'
      go_wp2
      go_ret
      refine ⟨v', r', rfl, by rw [HE.out]; exact HO.out, grow_trans (grow_trans hg (World.grownBy_alloc wr _ none) (.inr (.inl rfl))) hg' ?_, ?_, HN.out⟩
      · rcases hq with rfl | ⟨g, rfl, h⟩
        · exact .inl rfl
        · exact .inr (.inr ⟨g, rfl, h⟩)
      · rcases hr' with rfl | rfl
        · exact hq
        · exact .inr ⟨_, rfl, by have := hg.size; simp; omega⟩
    · obtain ⟨c, hc⟩ : ∃ c, c = u % 128 + 128 := ⟨_, rfl⟩
      have hor : bits .or .u8 ((u : Int) % 256) 128 = (c : Int) := by rw [or128 u, ← hc]
      have HE : Hid (uv v = (d ++ [c]) ++ uv (u / 128)) := by unfold Hid; rw [uv_split HD.out h128, ← hc]
      have hc256 : c < 256 := by omega
      clear HD hc
      go_wp2_with (at_builtin; refine wpList_append_row _ rfl _ _ 22 22 rfl Try.underlying22 _ _ (xs ++ d) [c] q rfl rfl ?hOwn ?hByte ?hSrc ?hLen ?_)
      case hOwn => exact ho.later ((Below.refl _ _).alloc (Nat.le_refl _) _)
      case hByte => simp; omega
      case hSrc => exact src_one wr c 22 5 Try.underlying22
      case hLen => exact hlen
      intro v' w1 r' ho' hg' hr' hn'
      have HO : Hid (Own w1 v' (xs ++ (d ++ [c])) r') := ho'
      have HN : Hid (r' ≠ none) := hn'
      clear ho' hn'
      go_wp2
      go_roundw
      case rel =>
        refine ⟨d ++ [c], u / 128, r', ?_, by omega, HE.out, HO.out, grow_trans (grow_trans hg (World.grownBy_alloc wr _ none) (.inr (.inl rfl))) hg' ?_, ?_⟩
        · go_num
        · rcases hq with rfl | ⟨g, rfl, h⟩
          · exact .inl rfl
          · exact .inr (.inr ⟨g, rfl, h⟩)
        · rcases hr' with rfl | rfl
          · exact hq
          · exact .inr ⟨_, rfl, by have := hg.size; simp; omega⟩
      case measure => simp [intOf]; omega

/-- A short number, in new memory. -/
theorem uvarint (v : Nat) (w : World) (hv : v < 18446744073709551616) :
    Calls Try.prog 40 #[.int .u64 v] w fun e w' => ∃ v' g, e = .returned v' ∧ Own w' v' (uv v) (some g) ∧ w.heap.size ≤ g ∧ Below w.heap.size w w' := by
  go_enter Try.func40, Try.ntmps40
  go_wp2_with (go_at_call 54; refine (appendUvarint _ [] none v _ hv (Own.nil _) (by decide)).mono ?_; rintro e w1 ⟨v', r', rfl, ho, hg, hr, hn⟩)
  have HO : Hid (Own w1 v' (uv v) r') := ho
  go_ret
  rcases hr with rfl | ⟨g, rfl, hge⟩
  · exact absurd rfl hn
  · exact ⟨v', g, rfl, HO.out, hge, grow_below hg (Nat.le_refl _) (by simp)⟩

theorem two_bytes172 (j : Nat) (h : j < [172, 2].length) : (#[Value.int .u8 172, .int .u8 2] : Array Value)[j]? = some (.int .u8 (([172, 2].getD j 0 : Nat) : Int)) := by
  match j, h with
  | 0, _ => rfl
  | 1, _ => rfl

theorem sameYes (va vb : Value) (l : List Nat) (w : World) (ha : BytesAt w va l) (hb : BytesAt w vb l) :
    Calls Try.prog 10 #[va, vb] w fun e w' => e = .returned (.bool true) ∧ ∃ n, w' = w.drewN n :=
  (sameBytes va vb l l w ha hb).mono fun e w' ⟨he, h⟩ => ⟨by rw [he, decide_eq_true rfl], h⟩

theorem sameNo (va vb : Value) (l k : List Nat) (w : World) (hne : l ≠ k) (ha : BytesAt w va l) (hb : BytesAt w vb k) :
    Calls Try.prog 10 #[va, vb] w fun e w' => e = .returned (.bool false) ∧ ∃ n, w' = w.drewN n :=
  (sameBytes va vb l k w ha hb).mono fun e w' ⟨he, h⟩ => ⟨by rw [he, decide_eq_false hne], h⟩

theorem below_of_drew {w w1 : World} (h : Below w.drew.heap.size w.drew w1) : Below w.heap.size w w1 := ⟨h.os, h.tape, h.output, h.size, h.block⟩
end Go.Proofs.Ytklfmgkfcacfkaa
