import Derived.Test.YtjefbcphefckiacWa
/-! Items that are read out of their own bytes, and bytes that items were read out of. -/
namespace Go.Proofs.Ytjefbcphefckiac
open Go.RowKit Plain
set_option linter.unusedVariables false

theorem rdPre (v : Nat) (t : List Nat) (hv : v < 18446744073709551616) : rd (uv v ++ t) = (v, (uv v).length, 0) := by
  have := rd_uv v 0 0 t (by simpa using hv) (.inl rfl) (by omega)
  unfold rd
  rw [this]
  simp
theorem rdOk (l : List Nat) (hb : ∀ c ∈ l, c < 256) (h : (rd l).2.2 = 0) : ∃ v, v < 18446744073709551616 ∧ rd l = (v, (uv v).length, 0) ∧ l = uv v ++ l.drop (uv v).length ∧ (uv v).length ≤ l.length := by
  obtain ⟨u, _, e1, e2, e3, e4⟩ := rd_taken l 0 0 (by decide) hb h
  refine ⟨u, by simpa using e2, ?_, ?_, e4.length_le⟩
  · have : rd l = ((rd l).1, (rd l).2.1, (rd l).2.2) := rfl
    rw [this, h, show (rd l).1 = u from e1.trans (by simp), show (rd l).2.1 = (uv u).length from e3.trans (by simp)]
  · have := List.prefix_iff_eq_take.mp e4
    conv => lhs; rw [← List.take_append_drop (uv u).length l]
    rw [← this]
theorem rdPart (v n : Nat) (hv : v < 18446744073709551616) (hn : n < (uv v).length) : rd ((uv v).take n) = (0, 0, 10) := by
  have := rd_part v 0 0 n (by simpa using hv) (by omega) hn
  exact this

theorem loop_len (s : ByteArray) : ∀ (k i : Nat) (r : List UInt8), s.size - i ≤ k → r.length ≤ (ByteArray.toList.loop s i r).length ∧ (i < s.size → r.length < (ByteArray.toList.loop s i r).length) := by
  intro k
  induction k with
  | zero =>
    intro i r h
    rw [ByteArray.toList.loop, if_neg (by omega)]
    exact ⟨by simp, fun h' => by omega⟩
  | succ k ih =>
    intro i r h
    by_cases hi : i < s.size
    · rw [ByteArray.toList.loop, if_pos hi]
      have := (ih (i + 1) (s.get! i :: r) (by omega)).1
      simp at this
      exact ⟨by omega, fun _ => by omega⟩
    · rw [ByteArray.toList.loop, if_neg hi]
      exact ⟨by simp, fun h' => by omega⟩
theorem emp_size {s : ByteArray} (h : emp s = true) : s.size = 0 := by
  have := (loop_len s s.size 0 [] (by omega)).2
  unfold emp ByteArray.toList at h
  rw [List.isEmpty_iff] at h
  rw [h] at this
  simp at this
  rw [this]
  rfl
theorem emp_nil {s : ByteArray} (h : emp s = true) : s = ⟨#[]⟩ := by
  have := emp_size h
  obtain ⟨d⟩ := s
  congr 1
  exact Array.eq_empty_of_size_eq_zero this
theorem emp_of : emp ⟨#[]⟩ = true := by simp [emp]
theorem strOf_bytesOf (s : ByteArray) : strOf (bytesOf s) = s := by
  obtain ⟨⟨l⟩⟩ := s
  unfold strOf bytesOf
  simp
  conv => rhs; rw [← List.map_id l]
  exact List.map_congr_left (fun c _ => by simp)

theorem be_succ (v n : Nat) : be (n + 1) v = (v / 2 ^ (8 * n) % 256) :: be n v := rfl
theorem val_cons (c : Nat) (l : List Nat) : val 0 (c :: l) = c * 256 ^ l.length + val 0 l := by
  have gen : ∀ (l : List Nat) (v : Nat), val v l = v * 256 ^ l.length + val 0 l := by
    intro l
    induction l with
    | nil => intro v; simp [val]
    | cons c r ih =>
      intro v
      have h1 : val v (c :: r) = val (v * 256 + c) r := rfl
      have h2 : val 0 (c :: r) = val (0 * 256 + c) r := rfl
      rw [h1, h2, ih, ih (0 * 256 + c), List.length_cons, Nat.pow_succ, Nat.add_mul, Nat.add_mul, Nat.mul_assoc, Nat.mul_comm 256]
      omega
  have h2 : val 0 (c :: l) = val (0 * 256 + c) l := rfl
  rw [h2, gen]
  simp
theorem val_be (v : Nat) : ∀ n, val 0 (be n v) = v % 256 ^ n
  | 0 => by simp [be, val, Nat.mod_one]
  | n + 1 => by
    rw [be_succ, val_cons, be_len, val_be v n]
    have h : 2 ^ (8 * n) = 256 ^ n := by rw [Nat.pow_mul]
    rw [h, Nat.pow_succ]
    have := Nat.mod_mul (x := v) (a := 256 ^ n) (b := 256)
    rw [this, Nat.mul_comm]
    omega
theorem be_val : ∀ (l : List Nat), (∀ c ∈ l, c < 256) → be l.length (val 0 l) = l
  | [], _ => rfl
  | c :: l, h => by
    have h1 := be_val l (fun x hx => h x (by simp [hx]))
    have h2 := val_lt l (fun x hx => h x (by simp [hx]))
    have hc := h c (by simp)
    have hp : 2 ^ (8 * l.length) = 256 ^ l.length := by rw [Nat.pow_mul]
    have low : ∀ (n v a m : Nat), n ≤ m → be n (a * 256 ^ m + v) = be n v := by
      intro n
      induction n with
      | zero => intros; rfl
      | succ n ih =>
        intro v a m hm
        rw [be_succ, be_succ, ih v a m (by omega)]
        congr 1
        have e : 2 ^ (8 * n) = 256 ^ n := by rw [Nat.pow_mul]
        rw [e]
        obtain ⟨d, rfl⟩ : ∃ d, m = n + 1 + d := ⟨m - (n + 1), by omega⟩
        have e2 : a * 256 ^ (n + 1 + d) + v = v + 256 ^ n * (256 * (a * 256 ^ d)) := by
          rw [Nat.pow_add, Nat.pow_succ]
          have : a * (256 ^ n * 256 * 256 ^ d) = 256 ^ n * (256 * (a * 256 ^ d)) := by ac_rfl
          omega
        rw [e2, Nat.add_mul_div_left _ _ (Nat.pow_pos (by decide)), Nat.add_mul_mod_self_left]
    rw [List.length_cons, be_succ, val_cons, low l.length (val 0 l) c l.length (Nat.le_refl _), h1]
    congr 1
    rw [hp, Nat.add_comm, Nat.add_mul_div_right _ _ (Nat.pow_pos (by decide)), Nat.div_eq_of_lt h2]
    omega

/-- The reader stands ahead of what is left of the bytes. -/
theorem at_drop (p x t : List Nat) : ((p ++ x ++ t).drop p.length) = x ++ t := by rw [List.append_assoc, List.drop_left']; rfl

theorem readIt_own (x : It) (most : Int) (p t : List Nat) (hf : x.fits = true) (hn : x.n < 18446744073709551616) (hs : x.s.size < 18446744073709551616) (hm : (x.s.size : Int) ≤ most) :
    readIt ⟨p ++ x.bytes ++ t, p.length, 0⟩ x.k most = (x, ⟨p ++ x.bytes ++ t, p.length + x.bytes.length, 0⟩) := by
  obtain ⟨k, n, s⟩ := x
  simp only at hn hs hm
  have hrest : (p ++ It.bytes ⟨k, n, s⟩ ++ t).length - p.length = (It.bytes ⟨k, n, s⟩).length + t.length := by simp
  have hout : ∀ m, m = (It.bytes ⟨k, n, s⟩).length → (Rs.mk (p ++ It.bytes ⟨k, n, s⟩ ++ t) p.length 0).out m = It.bytes ⟨k, n, s⟩ ∧ (Rs.mk (p ++ It.bytes ⟨k, n, s⟩ ++ t) p.length 0).on m = ⟨p ++ It.bytes ⟨k, n, s⟩ ++ t, p.length + (It.bytes ⟨k, n, s⟩).length, 0⟩ := by
    intro m hm
    refine ⟨?_, ?_⟩
    · rw [Rs.out_ok _ _ rfl (by simp only; rw [hrest]; omega)]
      simp only
      rw [at_drop, hm, List.take_left']
      rfl
    · rw [Rs.on_ok _ _ rfl (by simp only; rw [hrest]; omega), hm]
  have hnum : (Rs.mk (p ++ It.bytes ⟨k, n, s⟩ ++ t) p.length 0).num = rd (It.bytes ⟨k, n, s⟩ ++ t) := by
    unfold Rs.num
    rw [if_neg (by simp)]
    simp only
    rw [at_drop]
  by_cases k0 : k = 0
  · subst k0
    have hb : It.bytes ⟨0, n, s⟩ = [n % 256] := by simp [It.bytes]
    simp [It.fits] at hf
    obtain ⟨h1, h2⟩ := hout 1 (by rw [hb]; rfl)
    have hval : val 0 (It.bytes ⟨0, n, s⟩) % 256 = n := by rw [hb]; simp [val]; omega
    simp only [readIt, if_true]
    rw [h1, h2, hval, emp_nil hf.2]
  by_cases k12 : k = 1 ∨ k = 2
  · have hb : It.bytes ⟨k, n, s⟩ = uv n := by simp [It.bytes, k0, k12]
    have k3 : k ≠ 3 := by omega
    have k124 : k = 1 ∨ k = 2 ∨ k = 4 := by omega
    simp [It.fits, k0, k3, k124] at hf
    have e : rd (It.bytes ⟨k, n, s⟩ ++ t) = (n, (uv n).length, 0) := by rw [hb]; exact rdPre n t hn
    obtain ⟨h1, h2⟩ := hout (uv n).length (by rw [hb])
    have hx : (Rs.mk (p ++ It.bytes ⟨k, n, s⟩ ++ t) p.length 0).uvOn = ⟨p ++ It.bytes ⟨k, n, s⟩ ++ t, p.length + (It.bytes ⟨k, n, s⟩).length, 0⟩ := by
      unfold Rs.uvOn
      rw [hnum, e]
      have : (Rs.mk (p ++ It.bytes ⟨k, n, s⟩ ++ t) p.length 0).fail (((n, (uv n).length, 0) : Nat × Nat × Nat).2.2 : Nat) = ⟨p ++ It.bytes ⟨k, n, s⟩ ++ t, p.length, 0⟩ := by simp [Rs.fail]
      rw [this, h2]
    simp only [readIt]
    rw [if_neg k0, if_pos k12, hx, hnum, e, emp_nil hf]
  by_cases k3 : k = 3
  · subst k3
    have hb : It.bytes ⟨3, n, s⟩ = be 4 (n % 4294967296) := by simp [It.bytes]
    simp [It.fits] at hf
    obtain ⟨h1, h2⟩ := hout 4 (by rw [hb, be_len])
    have hval : val 0 (It.bytes ⟨3, n, s⟩) % 4294967296 = n := by rw [hb, val_be]; omega
    simp only [readIt]
    rw [if_neg (by decide), if_neg (by decide), if_pos (by decide), h1, h2, hval, emp_nil hf.2]
  by_cases k4 : k = 4
  · subst k4
    have hb : It.bytes ⟨4, n, s⟩ = be 8 n := by simp [It.bytes]
    simp [It.fits] at hf
    obtain ⟨h1, h2⟩ := hout 8 (by rw [hb, be_len])
    have hval : val 0 (It.bytes ⟨4, n, s⟩) = n := by rw [hb, val_be]; omega
    simp only [readIt]
    rw [if_neg (by decide), if_neg (by decide), if_neg (by decide), if_pos (by decide), h1, h2, hval, emp_nil hf]
  by_cases k5 : k = 5
  · subst k5
    have hb : It.bytes ⟨5, n, s⟩ = uv s.size ++ bytesOf s := by simp [It.bytes]
    simp [It.fits] at hf
    have e : rd (It.bytes ⟨5, n, s⟩ ++ t) = (s.size, (uv s.size).length, 0) := by rw [hb, List.append_assoc]; exact rdPre s.size _ hs
    have hbl := bytesOf_len s
    have hE : (Rs.mk (p ++ It.bytes ⟨5, n, s⟩ ++ t) p.length 0).textE most = 0 := by
      unfold Rs.textE
      rw [hnum, e]
      rw [if_neg (by simp), if_neg (by simp; omega), if_neg]
      unfold Rs.rest
      rw [if_pos rfl]
      simp only
      rw [hrest, hb, List.length_append, hbl]
      omega
    have hO : (Rs.mk (p ++ It.bytes ⟨5, n, s⟩ ++ t) p.length 0).textOut most = bytesOf s := by
      unfold Rs.textOut
      rw [hE, if_neg (by simp), hnum, e]
      simp only
      rw [hb]
      rw [show p ++ (uv s.size ++ bytesOf s) ++ t = (p ++ uv s.size) ++ bytesOf s ++ t by simp]
      rw [show p.length + (uv s.size).length = (p ++ uv s.size).length by simp, at_drop, ← hbl, List.take_left']
      rfl
    have hT : (Rs.mk (p ++ It.bytes ⟨5, n, s⟩ ++ t) p.length 0).textOn most = ⟨p ++ It.bytes ⟨5, n, s⟩ ++ t, p.length + (It.bytes ⟨5, n, s⟩).length, 0⟩ := by
      unfold Rs.textOn
      rw [hE, if_neg (by simp), if_neg (by simp), hnum, e]
      congr 1
      rw [hb, List.length_append, hbl]
      simp only
      omega
    simp only [readIt]
    rw [if_neg (by decide), if_neg (by decide), if_neg (by decide), if_neg (by decide), if_pos (by decide), hO, hT, strOf_bytesOf, hf]
  · exfalso
    have k124 : ¬ (k = 1 ∨ k = 2 ∨ k = 4) := by omega
    simp [It.fits, k0, k3, k124, k5] at hf

theorem readAll_own (most : Int) : ∀ (st : List It) (p t : List Nat), st.all It.fits = true → (∀ x ∈ st, x.n < 18446744073709551616 ∧ x.s.size < 18446744073709551616) → (∀ x ∈ st, (x.s.size : Int) ≤ most) →
    readAll most ⟨p ++ flat st ++ t, p.length, 0⟩ (st.map It.k) = (st, ⟨p ++ flat st ++ t, p.length + (flat st).length, 0⟩)
  | [], p, t, _, _, _ => by simp [readAll, flat]
  | x :: st, p, t, hf, hn, hm => by
    simp at hf
    have h1 := readIt_own x most p (flat st ++ t) hf.1 (hn x (by simp)).1 (hn x (by simp)).2 (hm x (by simp))
    have h2 := readAll_own most st (p ++ x.bytes) t (by simpa using hf.2) (fun y hy => hn y (by simp [hy])) (fun y hy => hm y (by simp [hy]))
    have e : p ++ flat (x :: st) ++ t = p ++ x.bytes ++ (flat st ++ t) := by simp [flat]
    have e2 : p ++ x.bytes ++ (flat st ++ t) = p ++ x.bytes ++ flat st ++ t := by simp
    rw [List.map_cons, readAll, e, h1]
    simp only
    rw [e2, show p.length + x.bytes.length = (p ++ x.bytes).length by simp, h2]
    simp [flat]
    omega
end Go.Proofs.Ytjefbcphefckiac
