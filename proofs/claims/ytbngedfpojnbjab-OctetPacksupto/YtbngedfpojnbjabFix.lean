import Derived.Test.YtbngedfpojnbjabWr2
namespace Go.Proofs.Ytbngedfpojnbjab
open Go.RowKit Plain
set_option linter.unusedVariables false

theorem be_getD (v : Nat) : ∀ (n j : Nat), j < n → (be n v).getD j 0 = v / 2 ^ (8 * (n - 1 - j)) % 256
  | 0, j, h => by omega
  | n + 1, 0, h => by simp [be]
  | n + 1, j + 1, h => by
    have := be_getD v n j (by omega)
    simp only [be, List.getD_cons_succ, this]
    congr 4
    omega

/-- The last bytes have been written; the others are yet 0. -/
def part (n k v : Nat) : List Nat := List.replicate k 0 ++ (be n v).drop k
theorem part_len (n k v : Nat) (h : k ≤ n) : (part n k v).length = n := by simp [part, be_len]; omega
theorem part_zero (n v : Nat) : part n 0 v = be n v := by simp [part]
theorem part_full (n v : Nat) : part n n v = List.replicate n 0 := by simp [part, be_len]
theorem part_getD (n k v j : Nat) (hk : k ≤ n) (hj : j < n) : (part n k v).getD j 0 = if j < k then 0 else v / 2 ^ (8 * (n - 1 - j)) % 256 := by
  unfold part
  by_cases h : j < k
  · rw [getD_left _ _ (by simpa using h), if_pos h, getD_replicate k 0 j h]
  · rw [getD_right _ _ (by simpa using h), if_neg h, List.length_replicate, List.getD_eq_getElem?_getD, List.getElem?_drop, show k + (j - k) = j by omega, ← List.getD_eq_getElem?_getD, be_getD v n j hj]

theorem part_byte (n k v : Nat) : ∀ c ∈ part n k v, c < 256 := by
  intro c hc
  rcases List.mem_append.mp hc with h | h
  · rw [List.eq_of_mem_replicate h]; decide
  · exact be_byte v n c (List.mem_of_mem_drop h)

/-- One byte of a row is written. -/
theorem Own.set {w : World} {g m cap : Nat} {l l' : List Nat} {c i : Nat} (h : Own w (.slice (some ⟨g, 0, none⟩) m cap) l (some g)) (hi : i < l.length) (hl : l'.length = l.length) (hb : ∀ c ∈ l', c < 256)
    (hc : l'.getD i 0 = c) (ho : ∀ j, j < l.length → j ≠ i → l'.getD j 0 = l.getD j 0) : Own (w.setCell ⟨g, i, none⟩ (.int .u8 (c : Int))) (.slice (some ⟨g, 0, none⟩) m cap) l' (some g) ∧ w.cell? ⟨g, i, none⟩ = some (.int .u8 ((l.getD i 0 : Nat) : Int)) ∧ w.frozen? ⟨g, i, none⟩ = false := by
  rcases h.2 with ⟨_, _, e⟩ | ⟨g', cap', e, e2, hg, h1, h2, h3, h4, h5⟩
  · simp at e
  simp at e; subst e
  simp only [Value.slice.injEq] at e2
  obtain ⟨_, rfl, rfl⟩ := e2
  refine ⟨⟨hb, .inr ⟨g, cap, rfl, by rw [hl], ?_, by omega, h2, fun j hj => ?_, fun j hj => ?_, fun j hj => ?_⟩⟩, h5 i hi, h3 i (by omega)⟩
  · have := setCells_size g [.int .u8 (c : Int)] i w
    have e : (w.setCell ⟨g, i, none⟩ (.int .u8 (c : Int))).heap.size = w.heap.size := this
    omega
  · rw [← h3 j hj]; exact World.frozen?_setCells g [.int .u8 (c : Int)] i w _
  · exact isSome_setCells g [.int .u8 (c : Int)] i w _ (h4 j hj)
  · by_cases hji : j = i
    · subst hji; rw [World.cell?_setCell_same _ _ _ (h5 j hi), hc]
    · rw [World.cell?_setCell_other _ _ _ _ (by simp <;> omega), h5 j (by omega), ho j (by omega) hji]

set_option maxHeartbeats 400000 in
set_option maxRecDepth 1000000 in
theorem refFixed4 (v : Nat) (w : World) (hv : v < 18446744073709551616) :
    Calls Try.prog 47 #[.int .u64 v, .int .i64 4] w fun e w' => ∃ v' g, e = .returned v' ∧ Own w' v' (be 4 v) (some g) ∧ w.heap.size ≤ g ∧ Below w.heap.size w w' := by
  have hmk : ∀ wx : World, (Instr.makeSlice 23 (.int .i64 4) (.int .i64 4)).run Try.prog wx = .ok (.slice (some ⟨wx.heap.size, 0, none⟩) 4 4) (wx.alloc (.cells #[.int .u8 0, .int .u8 0, .int .u8 0, .int .u8 0] 5)) := fun _ => by kernel_rfl
  go_enter Try.func47, Try.ntmps47
  go_wp2
  clear hmk
  go_loopw [0, 6] (fun t i wr => ∃ k : Nat, k ≤ 4 ∧ t = .int .u64 ((v / 2 ^ (8 * (4 - k)) : Nat) : Int) ∧ i = .int .i64 ((k : Int) - 1) ∧ Own wr (.slice (some ⟨w.heap.size, 0, none⟩) 4 4) (part 4 k v) (some w.heap.size) ∧ Below w.heap.size w wr) (fun _ i _ => (intOf i + 1).toNat)
  case atStart =>
    refine ⟨4, by omega, by simp, by simp, ?_, (Below.refl _ _).alloc (Nat.le_refl _) _⟩
    rw [part_full]
    exact Own.new w _ (List.replicate 4 0) 4 5 (by decide) rfl (by decide) (by decide) (fun j hj => by
      match j, hj with
      | 0, _ => rfl
      | 1, _ => rfl
      | 2, _ => rfl
      | 3, _ => rfl
      )
  case round =>
    obtain ⟨k, hk, rfl, rfl, ho, hb⟩ := hrel
    have HO : Hid (Own wr (.slice (some ⟨w.heap.size, 0, none⟩) 4 4) (part 4 k v) (some w.heap.size)) := ho
    have HB : Hid (Below w.heap.size w wr) := hb
    clear ho hb
    by_cases hk0 : k = 0
    · subst hk0
      go_wp2
      go_ret
      exact ⟨_, w.heap.size, rfl, by rw [← part_zero]; exact HO.out, Nat.le_refl _, HB.out⟩
    · obtain ⟨m, rfl⟩ : ∃ m, k = m + 1 := ⟨k - 1, by omega⟩
      obtain ⟨u, hu⟩ : ∃ u, v / 2 ^ (8 * (4 - (m + 1))) = u := ⟨_, rfl⟩
      have hul : u < 18446744073709551616 := by rw [← hu]; exact Nat.lt_of_le_of_lt (Nat.div_le_self _ _) hv
      have hun : v / 2 ^ (8 * (4 - m)) = u / 256 := by
        rw [← hu, Nat.div_div_eq_div_mul, show (256 : Nat) = 2 ^ 8 from rfl, ← Nat.pow_add]
        congr 2
        omega
      obtain ⟨c, hc⟩ : ∃ c, u % 256 = c := ⟨_, rfl⟩
      have hcc : (u : Int) % 256 = (c : Int) := by omega
      have hm : m < 4 := by omega
      have hset := Own.set (l' := part 4 m v) (c := c) (i := m) HO.out (by rw [part_len _ _ _ hk]; exact hm) (by rw [part_len _ _ _ hk, part_len _ _ _ (by omega)]) (part_byte _ _ _)
        (by rw [part_getD _ _ _ _ (by omega) hm, if_neg (by omega), ← hc, ← hu]; congr 4; omega)
        (fun j hj hji => by
          rw [part_len _ _ _ hk] at hj
          rw [part_getD _ _ _ _ (by omega) hj, part_getD _ _ _ _ hk hj]
          by_cases h : j < m
          · rw [if_pos h, if_pos (by omega)]
          · rw [if_neg h, if_neg (by omega)])
      obtain ⟨hs1, hs2, hs3⟩ := hset
      have HS : Hid (Own (wr.setCell ⟨w.heap.size, m, none⟩ (.int .u8 (c : Int))) (.slice (some ⟨w.heap.size, 0, none⟩) 4 4) (part 4 m v) (some w.heap.size)) := hs1
      have HU : Hid (v / 2 ^ (8 * (4 - m)) = u / 256) := hun
      rw [hu]
      clear hs1 HO hu hun hc hk0
      go_wp2
      go_roundw
      case rel => exact ⟨m, by omega, by rw [HU.out]; go_num, by go_num, HS.out, HB.out.setCell (Nat.le_refl _) _⟩
      case measure => simp [intOf]

set_option maxHeartbeats 400000 in
set_option maxRecDepth 1000000 in
theorem refFixed8 (v : Nat) (w : World) (hv : v < 18446744073709551616) :
    Calls Try.prog 47 #[.int .u64 v, .int .i64 8] w fun e w' => ∃ v' g, e = .returned v' ∧ Own w' v' (be 8 v) (some g) ∧ w.heap.size ≤ g ∧ Below w.heap.size w w' := by
  have hmk : ∀ wx : World, (Instr.makeSlice 23 (.int .i64 8) (.int .i64 8)).run Try.prog wx = .ok (.slice (some ⟨wx.heap.size, 0, none⟩) 8 8) (wx.alloc (.cells #[.int .u8 0, .int .u8 0, .int .u8 0, .int .u8 0, .int .u8 0, .int .u8 0, .int .u8 0, .int .u8 0] 5)) := fun _ => by kernel_rfl
  go_enter Try.func47, Try.ntmps47
  go_wp2
  clear hmk
  go_loopw [0, 6] (fun t i wr => ∃ k : Nat, k ≤ 8 ∧ t = .int .u64 ((v / 2 ^ (8 * (8 - k)) : Nat) : Int) ∧ i = .int .i64 ((k : Int) - 1) ∧ Own wr (.slice (some ⟨w.heap.size, 0, none⟩) 8 8) (part 8 k v) (some w.heap.size) ∧ Below w.heap.size w wr) (fun _ i _ => (intOf i + 1).toNat)
  case atStart =>
    refine ⟨8, by omega, by simp, by simp, ?_, (Below.refl _ _).alloc (Nat.le_refl _) _⟩
    rw [part_full]
    exact Own.new w _ (List.replicate 8 0) 8 5 (by decide) rfl (by decide) (by decide) (fun j hj => by
      match j, hj with
      | 0, _ => rfl
      | 1, _ => rfl
      | 2, _ => rfl
      | 3, _ => rfl
      | 4, _ => rfl
      | 5, _ => rfl
      | 6, _ => rfl
      | 7, _ => rfl
      )
  case round =>
    obtain ⟨k, hk, rfl, rfl, ho, hb⟩ := hrel
    have HO : Hid (Own wr (.slice (some ⟨w.heap.size, 0, none⟩) 8 8) (part 8 k v) (some w.heap.size)) := ho
    have HB : Hid (Below w.heap.size w wr) := hb
    clear ho hb
    by_cases hk0 : k = 0
    · subst hk0
      go_wp2
      go_ret
      exact ⟨_, w.heap.size, rfl, by rw [← part_zero]; exact HO.out, Nat.le_refl _, HB.out⟩
    · obtain ⟨m, rfl⟩ : ∃ m, k = m + 1 := ⟨k - 1, by omega⟩
      obtain ⟨u, hu⟩ : ∃ u, v / 2 ^ (8 * (8 - (m + 1))) = u := ⟨_, rfl⟩
      have hul : u < 18446744073709551616 := by rw [← hu]; exact Nat.lt_of_le_of_lt (Nat.div_le_self _ _) hv
      have hun : v / 2 ^ (8 * (8 - m)) = u / 256 := by
        rw [← hu, Nat.div_div_eq_div_mul, show (256 : Nat) = 2 ^ 8 from rfl, ← Nat.pow_add]
        congr 2
        omega
      obtain ⟨c, hc⟩ : ∃ c, u % 256 = c := ⟨_, rfl⟩
      have hcc : (u : Int) % 256 = (c : Int) := by omega
      have hm : m < 8 := by omega
      have hset := Own.set (l' := part 8 m v) (c := c) (i := m) HO.out (by rw [part_len _ _ _ hk]; exact hm) (by rw [part_len _ _ _ hk, part_len _ _ _ (by omega)]) (part_byte _ _ _)
        (by rw [part_getD _ _ _ _ (by omega) hm, if_neg (by omega), ← hc, ← hu]; congr 4; omega)
        (fun j hj hji => by
          rw [part_len _ _ _ hk] at hj
          rw [part_getD _ _ _ _ (by omega) hj, part_getD _ _ _ _ hk hj]
          by_cases h : j < m
          · rw [if_pos h, if_pos (by omega)]
          · rw [if_neg h, if_neg (by omega)])
      obtain ⟨hs1, hs2, hs3⟩ := hset
      have HS : Hid (Own (wr.setCell ⟨w.heap.size, m, none⟩ (.int .u8 (c : Int))) (.slice (some ⟨w.heap.size, 0, none⟩) 8 8) (part 8 m v) (some w.heap.size)) := hs1
      have HU : Hid (v / 2 ^ (8 * (8 - m)) = u / 256) := hun
      rw [hu]
      clear hs1 HO hu hun hc hk0
      go_wp2
      go_roundw
      case rel => exact ⟨m, by omega, by rw [HU.out]; go_num, by go_num, HS.out, HB.out.setCell (Nat.le_refl _) _⟩
      case measure => simp [intOf]

end Go.Proofs.Ytbngedfpojnbjab
