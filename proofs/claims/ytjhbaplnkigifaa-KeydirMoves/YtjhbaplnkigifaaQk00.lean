import Derived.Test.YtjhbaplnkigifaaProg
import Derived.WalkKit
import Derived.WalkLawsBesides
import Derived.Deep.QuietTactic
import Derived.BigQuiet
import Derived.WalkSmall
import Derived.OpenShut
import Derived.Laws.RangeString
import Derived.Laws.RangeAny
import Derived.Lib.OthersKept
import Derived.Laws.IdiomStrings
/-! Plain facts on comparing lists of bytes. -/
namespace Go.Proofs.Ytjhbaplnkigifaa.Plain

def cmpL : List UInt8 → List UInt8 → Int
  | [], [] => 0
  | [], _ :: _ => -1
  | _ :: _, [] => 1
  | x :: xs, y :: ys => if x.toNat < y.toNat then -1 else if y.toNat < x.toNat then 1 else cmpL xs ys

def cmpP : List UInt8 → List UInt8 → Int
  | [], _ => 0
  | _ :: _, [] => 1
  | x :: xs, y :: ys => if x.toNat < y.toNat then -1 else if y.toNat < x.toNat then 1 else cmpP xs ys

theorem u8_eq {x y : UInt8} (h1 : ¬ x.toNat < y.toNat) (h2 : ¬ y.toNat < x.toNat) : x = y :=
  UInt8.toNat_inj.mp (by omega)

theorem cmpP_take (n : Nat) : ∀ (xs ys : List UInt8), n ≤ xs.length → (cmpP (xs.take n) ys ≠ 0 → cmpL xs ys = cmpP (xs.take n) ys) ∧ (cmpP (xs.take n) ys = 0 → n ≤ ys.length ∧ cmpL xs ys = cmpL (xs.drop n) (ys.drop n)) := by
  induction n with
  | zero => intro xs ys _; simp [cmpP]
  | succ n ih =>
    intro xs ys h
    match xs, ys with
    | [], _ => simp at h
    | x :: xs, [] => simp [cmpP, cmpL]
    | x :: xs, y :: ys =>
      have := ih xs ys (by simpa using h)
      simp only [List.take_succ_cons, cmpP, cmpL, List.drop_succ_cons, List.length_cons]
      split
      · simp
      · split
        · simp
        · exact ⟨this.1, fun h => ⟨by have := (this.2 h).1; omega, (this.2 h).2⟩⟩

theorem cmpP_all (xs ys : List UInt8) : (cmpP xs ys ≠ 0 → cmpL xs ys = cmpP xs ys) ∧ (cmpP xs ys = 0 → cmpL xs ys = if xs.length < ys.length then -1 else 0) := by
  have h := cmpP_take xs.length xs ys (Nat.le_refl _)
  rw [List.take_length] at h
  refine ⟨h.1, fun h0 => ?_⟩
  obtain ⟨h1, h2⟩ := h.2 h0
  rw [h2, List.drop_length]
  split
  · rename_i hlt
    cases hd : ys.drop xs.length with
    | nil => have := congrArg List.length hd; simp at this; omega
    | cons => rfl
  · rw [List.drop_eq_nil_of_le (by omega)]; rfl

theorem cmpL_self : ∀ xs : List UInt8, cmpL xs xs = 0
  | [] => rfl
  | x :: xs => by simp [cmpL, cmpL_self xs]

theorem cmpL_neg : ∀ xs ys : List UInt8, cmpL ys xs = - cmpL xs ys
  | [], [] => rfl
  | [], _ :: _ => rfl
  | _ :: _, [] => rfl
  | x :: xs, y :: ys => by
    simp only [cmpL]
    rw [cmpL_neg xs ys]
    split <;> split <;> (try omega) <;> (try rfl) 

theorem cmpL_zero : ∀ xs ys : List UInt8, cmpL xs ys = 0 → xs = ys
  | [], [], _ => rfl
  | [], _ :: _, h => by simp [cmpL] at h
  | _ :: _, [], h => by simp [cmpL] at h
  | x :: xs, y :: ys, h => by
    simp only [cmpL] at h
    split at h
    · simp at h
    · split at h
      · simp at h
      · rename_i h1 h2; rw [u8_eq h1 h2, cmpL_zero xs ys h]

theorem cmpL_range : ∀ xs ys : List UInt8, cmpL xs ys = -1 ∨ cmpL xs ys = 0 ∨ cmpL xs ys = 1
  | [], [] => by simp [cmpL]
  | [], _ :: _ => by simp [cmpL]
  | _ :: _, [] => by simp [cmpL]
  | x :: xs, y :: ys => by
    simp only [cmpL]
    split
    · simp
    · split
      · simp
      · exact cmpL_range xs ys

theorem cmpP_range : ∀ xs ys : List UInt8, cmpP xs ys = -1 ∨ cmpP xs ys = 0 ∨ cmpP xs ys = 1
  | [], _ => by simp [cmpP]
  | _ :: _, [] => by simp [cmpP]
  | x :: xs, y :: ys => by
    simp only [cmpP]
    split
    · simp
    · split
      · simp
      · exact cmpP_range xs ys

/-- The least text above all that begin with l, if there is one. -/
def aft : List UInt8 → Option (List UInt8)
  | [] => none
  | y :: p => match aft p with | some q => some (y :: q) | none => if y.toNat = 255 then none else some [y + 1]

theorem aft_nil : aft [] = none := rfl

theorem aft_snoc (x : UInt8) : ∀ l : List UInt8, aft (l ++ [x]) = if x.toNat = 255 then aft l else some (l ++ [x + 1])
  | [] => rfl
  | y :: l => by
    rw [List.cons_append, aft, aft_snoc x l]
    by_cases h : x.toNat = 255
    · simp only [h, if_true]; rfl
    · simp only [h, if_false]; rfl
end Go.Proofs.Ytjhbaplnkigifaa.Plain

/-! Plain facts on short numbers. -/
namespace Go.Proofs.Ytjhbaplnkigifaa.Plain

def uvF : Nat → Nat → List Nat
  | 0, v => [v]
  | k + 1, v => if v < 128 then [v] else (v % 128 + 128) :: uvF k (v / 128)
theorem uvF_enough : ∀ (k m v : Nat), v ≤ k → v ≤ m → uvF k v = uvF m v
  | 0, 0, v, _, _ => rfl
  | 0, m + 1, v, h, _ => by
    obtain rfl : v = 0 := by omega
    rfl
  | k + 1, 0, v, _, h => by
    obtain rfl : v = 0 := by omega
    rfl
  | k + 1, m + 1, v, h, h' => by
    simp only [uvF]
    split
    · rfl
    · rw [uvF_enough k m (v / 128) (by omega) (by omega)]
def uv (v : Nat) : List Nat := uvF v v

theorem uv_lt {v : Nat} (h : v < 128) : uv v = [v] := by
  unfold uv
  cases v with
  | zero => rfl
  | succ v => simp only [uvF]; rw [if_pos h]
theorem uv_ge {v : Nat} (h : ¬ v < 128) : uv v = (v % 128 + 128) :: uv (v / 128) := by
  unfold uv
  cases v with
  | zero => omega
  | succ v =>
    simp only [uvF]
    rw [if_neg h, uvF_enough v ((v + 1) / 128) ((v + 1) / 128) (by omega) (Nat.le_refl _)]

/-- What bytes say that are read as a short number, i of them having been read, which came to acc. -/
def rdGo : List Nat → Nat → Nat → Nat × Nat × Nat
  | [], _, _ => (0, 0, 10)
  | c :: cs, i, acc =>
    if (0 < i ∧ c = 0) ∨ (i = 9 ∧ c ≠ 1) then (0, 0, 11)
    else if c < 128 then (acc + c % 128 * 2 ^ (7 * i), i + 1, 0)
    else rdGo cs (i + 1) (acc + c % 128 * 2 ^ (7 * i))

def rd (l : List Nat) : Nat × Nat × Nat := rdGo l 0 0

theorem uv_pos (v : Nat) : 1 ≤ (uv v).length := by
  by_cases h : v < 128
  · rw [uv_lt h]; simp
  · rw [uv_ge h]; simp

theorem uv_byte : ∀ (v : Nat), ∀ c ∈ uv v, c < 256 := by
  intro v
  induction v using Nat.strongRecOn with
  | ind v ih =>
    by_cases h : v < 128
    · rw [uv_lt h]; simp; omega
    · rw [uv_ge h]
      intro c hc
      rcases List.mem_cons.mp hc with rfl | hc
      · omega
      · exact ih (v / 128) (by omega) c hc

theorem pow_step (i : Nat) : 2 ^ (7 * (i + 1)) = 2 ^ (7 * i) * 128 := by rw [Nat.mul_add, Nat.pow_add]

theorem pow_le_of {u i : Nat} (hu : 0 < u) (h : u * 2 ^ (7 * i) < 2 ^ 64) : i ≤ 9 := by
  apply Classical.byContradiction
  intro hi
  have h1 : 2 ^ 70 ≤ 2 ^ (7 * i) := Nat.pow_le_pow_right (by decide) (by omega)
  have h2 : 1 * 2 ^ (7 * i) ≤ u * 2 ^ (7 * i) := Nat.mul_le_mul_right _ hu
  have h3 : (2 : Nat) ^ 64 < 2 ^ 70 := by decide
  omega

/-- What is written is read back, whatever stands behind. -/
theorem rd_uv : ∀ (v i acc : Nat) (t : List Nat), v * 2 ^ (7 * i) < 2 ^ 64 → (i = 0 ∨ 0 < v) → i ≤ 9 → rdGo (uv v ++ t) i acc = (acc + v * 2 ^ (7 * i), i + (uv v).length, 0) := by
  intro v
  induction v using Nat.strongRecOn with
  | ind v ih =>
    intro i acc t hlt hv hi
    by_cases h : v < 128
    · rw [uv_lt h]
      simp only [List.singleton_append, rdGo]
      rw [if_neg, if_pos h]
      · simp [Nat.mod_eq_of_lt h]
      · rintro (⟨h1, h2⟩ | ⟨h1, h2⟩)
        · omega
        · subst h1
          have : v * 2 ^ 63 < 2 ^ 64 := hlt
          omega
    · rw [uv_ge h]
      have hm : (v % 128 + 128) % 128 = v % 128 := by omega
      simp only [List.cons_append, rdGo]
      have hi8 : i ≤ 8 := by
        apply Classical.byContradiction
        intro h8
        have e : i = 9 := by omega
        subst e
        have : v * 2 ^ 63 < 2 ^ 64 := hlt
        omega
      rw [if_neg (by omega), if_neg (by omega), hm, ih (v / 128) (by omega) (i + 1) _ t ?_ (.inr (by omega)) (by omega)]
      · have e : v % 128 * 2 ^ (7 * i) + v / 128 * 2 ^ (7 * (i + 1)) = v * 2 ^ (7 * i) := by
          rw [pow_step, ← Nat.mul_assoc, Nat.mul_right_comm, ← Nat.add_mul]
          congr 1
          omega
        rw [Nat.add_assoc, e]
        simp
        omega
      · rw [pow_step]
        have : v / 128 * (2 ^ (7 * i) * 128) ≤ v * 2 ^ (7 * i) := by
          rw [Nat.mul_comm (2 ^ (7 * i)), ← Nat.mul_assoc]
          exact Nat.mul_le_mul_right _ (by omega)
        omega

/-- A part of it is too short. -/
theorem rd_part : ∀ (v i acc n : Nat), v * 2 ^ (7 * i) < 2 ^ 64 → i ≤ 9 → n < (uv v).length → rdGo ((uv v).take n) i acc = (0, 0, 10) := by
  intro v
  induction v using Nat.strongRecOn with
  | ind v ih =>
    intro i acc n hlt hi hn
    cases n with
    | zero => rfl
    | succ n =>
      by_cases h : v < 128
      · rw [uv_lt h] at hn; simp at hn
      · rw [uv_ge h] at hn ⊢
        simp only [List.take_succ_cons, rdGo]
        have hi8 : i ≤ 8 := by
          apply Classical.byContradiction
          intro h8
          have e : i = 9 := by omega
          subst e
          have : v * 2 ^ 63 < 2 ^ 64 := hlt
          omega
        rw [if_neg (by omega), if_neg (by omega)]
        refine ih (v / 128) (by omega) (i + 1) _ n ?_ (by omega) (by simpa using hn)
        rw [pow_step]
        have : v / 128 * (2 ^ (7 * i) * 128) ≤ v * 2 ^ (7 * i) := by
          rw [Nat.mul_comm (2 ^ (7 * i)), ← Nat.mul_assoc]
          exact Nat.mul_le_mul_right _ (by omega)
        omega

/-- Whatever is taken is what is written for it. -/
theorem rd_taken : ∀ (l : List Nat) (i acc : Nat), i ≤ 9 → (∀ c ∈ l, c < 256) → (rdGo l i acc).2.2 = 0 →
    ∃ u, (i = 0 ∨ 0 < u) ∧ (rdGo l i acc).1 = acc + u * 2 ^ (7 * i) ∧ u * 2 ^ (7 * i) < 2 ^ 64 ∧ (rdGo l i acc).2.1 = i + (uv u).length ∧ uv u <+: l
  | [], _, _, _, _, h => by simp [rdGo] at h
  | c :: cs, i, acc, hi, hb, h => by
    have hc := hb c (by simp)
    simp only [rdGo] at h ⊢
    by_cases h1 : (0 < i ∧ c = 0) ∨ (i = 9 ∧ c ≠ 1)
    · rw [if_pos h1] at h; simp at h
    · rw [if_neg h1] at h ⊢
      by_cases h2 : c < 128
      · rw [if_pos h2] at h ⊢
        refine ⟨c, by omega, by simp [Nat.mod_eq_of_lt h2], ?_, by simp [uv_lt h2], by rw [uv_lt h2]; exact ⟨cs, rfl⟩⟩
        by_cases h9 : i = 9
        · subst h9
          have : c = 1 := by omega
          subst this
          decide
        · have h3 : c * 2 ^ (7 * i) ≤ 127 * 2 ^ 56 := Nat.mul_le_mul (by omega) (Nat.pow_le_pow_right (by decide) (by omega))
          omega
      · rw [if_neg h2] at h ⊢
        obtain ⟨u, hu, e1, e2, e3, e4⟩ := rd_taken cs (i + 1) _ (by omega) (fun c hc => hb c (by simp [hc])) h
        have hu' : 0 < u := by omega
        have hge : ¬ (c % 128 + 128 * u) < 128 := by omega
        have hmod : (c % 128 + 128 * u) % 128 + 128 = c := by omega
        have hdiv : (c % 128 + 128 * u) / 128 = u := by omega
        have hval : (c % 128 + 128 * u) * 2 ^ (7 * i) = c % 128 * 2 ^ (7 * i) + u * 2 ^ (7 * (i + 1)) := by
          rw [pow_step, Nat.add_mul, Nat.mul_comm (2 ^ (7 * i)), ← Nat.mul_assoc u, Nat.mul_comm u]
        refine ⟨c % 128 + 128 * u, by omega, ?_, ?_, ?_, ?_⟩
        · rw [e1, hval]; omega
        · rw [hval]
          have hu2 : u * 2 ^ (7 * (i + 1)) + 2 ^ (7 * (i + 1)) ≤ 2 ^ 64 := by
            have hi9 := pow_le_of hu' e2
            by_cases h9 : i + 1 = 9
            · rw [h9] at e2 ⊢; omega
            · obtain ⟨k, hk⟩ : ∃ k, 2 ^ 64 = k * 2 ^ (7 * (i + 1)) := ⟨2 ^ (64 - 7 * (i + 1)), by rw [← Nat.pow_add]; congr 1; omega⟩
              rw [hk] at e2 ⊢
              have := Nat.lt_of_mul_lt_mul_right e2
              calc u * 2 ^ (7 * (i + 1)) + 2 ^ (7 * (i + 1)) = (u + 1) * 2 ^ (7 * (i + 1)) := by rw [Nat.add_mul, Nat.one_mul]
                _ ≤ k * 2 ^ (7 * (i + 1)) := Nat.mul_le_mul_right _ this
          have h4 : c % 128 * 2 ^ (7 * i) < 128 * 2 ^ (7 * i) := Nat.mul_lt_mul_of_pos_right (by omega) (Nat.pow_pos (by decide))
          rw [pow_step] at hu2 ⊢
          omega
        · rw [e3, uv_ge hge, hdiv]; simp; omega
        · rw [uv_ge hge, hmod, hdiv]; exact List.cons_prefix_cons.mpr ⟨rfl, e4⟩

/-- Where nothing is taken. -/
theorem rd_refused : ∀ (l : List Nat) (i acc : Nat), (rdGo l i acc).2.2 ≠ 0 → rdGo l i acc = (0, 0, 10) ∨ rdGo l i acc = (0, 0, 11)
  | [], _, _, _ => by simp [rdGo]
  | c :: cs, i, acc, h => by
    simp only [rdGo] at h ⊢
    by_cases h1 : (0 < i ∧ c = 0) ∨ (i = 9 ∧ c ≠ 1)
    · rw [if_pos h1]; simp
    · rw [if_neg h1] at h ⊢
      by_cases h2 : c < 128
      · rw [if_pos h2] at h; simp at h
      · rw [if_neg h2] at h ⊢
        exact rd_refused cs _ _ h

theorem uv_len : ∀ v i : Nat, v < 2 ^ (7 * (i + 1)) → (uv v).length ≤ i + 1 := by
  intro v
  induction v using Nat.strongRecOn with
  | ind v ih =>
    intro i h
    by_cases h1 : v < 128
    · rw [uv_lt h1]; simp
    · rw [uv_ge h1]
      cases i with
      | zero => simp at h; omega
      | succ i =>
        have := ih (v / 128) (by omega) i (by rw [pow_step] at h; omega)
        simp; omega

theorem uv_len10 {v : Nat} (h : v < 2 ^ 64) : (uv v).length ≤ 10 := uv_len v 9 (Nat.lt_of_lt_of_le h (by decide))

theorem uv_mono : ∀ v w : Nat, v ≤ w → (uv v).length ≤ (uv w).length := by
  intro v
  induction v using Nat.strongRecOn with
  | ind v ih =>
    intro w h
    by_cases h1 : v < 128
    · rw [uv_lt h1]; exact uv_pos w
    · rw [uv_ge h1, uv_ge (show ¬ w < 128 by omega)]
      have := ih (v / 128) (by omega) (w / 128) (by omega)
      simp; omega

/-- No short number begins another one. -/
theorem uv_apart : ∀ v w : Nat, uv v <+: uv w → v = w := by
  intro v
  induction v using Nat.strongRecOn with
  | ind v ih =>
    intro w h
    by_cases h1 : v < 128
    · by_cases h2 : w < 128
      · rw [uv_lt h1, uv_lt h2] at h
        have := List.cons_prefix_cons.mp h
        exact this.1
      · rw [uv_lt h1, uv_ge h2] at h
        have := (List.cons_prefix_cons.mp h).1
        omega
    · by_cases h2 : w < 128
      · rw [uv_ge h1, uv_lt h2] at h
        have := (List.cons_prefix_cons.mp h).1
        omega
      · rw [uv_ge h1, uv_ge h2] at h
        obtain ⟨e1, e2⟩ := List.cons_prefix_cons.mp h
        have := ih (v / 128) (by omega) (w / 128) e2
        omega
end Go.Proofs.Ytjhbaplnkigifaa.Plain

/-! Slices of bytes in memory. -/
namespace Go.Proofs.Ytjhbaplnkigifaa
open Go.RowKit Plain
set_option linter.unusedVariables false

/-- v is a slice of bytes that reads as l. -/
def BytesAt (w : World) (v : Value) (l : List Nat) : Prop :=
  ∃ a cap, v = .slice a l.length cap ∧ l.length ≤ cap ∧ cap ≤ maxLen ∧ (∀ c ∈ l, c < 256) ∧
    (l ≠ [] → ∃ b off, a = some ⟨b, off, none⟩ ∧ ∀ j, j < l.length → w.cell? ⟨b, off + j, none⟩ = some (.int .u8 ((l.getD j 0 : Nat) : Int)))

theorem cell_lt {w : World} {a : Addr} {v : Value} (h : w.cell? a = some v) : a.block < w.heap.size := by
  unfold World.cell? at h
  cases e : w.heap[a.block]? with
  | none => rw [e] at h; simp at h
  | some o => exact (Array.getElem?_eq_some_iff.mp e).1

theorem BytesAt.of_cells {w w' : World} {v : Value} {l : List Nat} (h : BytesAt w v l) (hc : ∀ b o u, w.cell? ⟨b, o, none⟩ = some u → w'.cell? ⟨b, o, none⟩ = some u) : BytesAt w' v l := by
  obtain ⟨a, cap, rfl, h1, h2, h3, h4⟩ := h
  refine ⟨a, cap, rfl, h1, h2, h3, fun hne => ?_⟩
  obtain ⟨b, off, rfl, h5⟩ := h4 hne
  exact ⟨b, off, rfl, fun j hj => hc _ _ _ (h5 j hj)⟩

theorem BytesAt.later {w w' : World} {v : Value} {l : List Nat} (h : BytesAt w v l) (hb : Below w.heap.size w w') : BytesAt w' v l :=
  h.of_cells fun b o u hu => by rw [hb.cell (cell_lt hu)]; exact hu

theorem BytesAt.drewN {w : World} {v : Value} {l : List Nat} (h : BytesAt w v l) (n : Nat) : BytesAt (w.drewN n) v l := h
theorem BytesAt.len {w : World} {v : Value} {l : List Nat} (h : BytesAt w v l) : l.length ≤ maxLen := by
  obtain ⟨a, cap, rfl, h1, h2, h3, h4⟩ := h
  omega
theorem BytesAt.byte {w : World} {v : Value} {l : List Nat} (h : BytesAt w v l) : ∀ c ∈ l, c < 256 := by
  obtain ⟨a, cap, rfl, h1, h2, h3, h4⟩ := h
  exact h3
theorem BytesAt.nil (w : World) : BytesAt w (.slice none 0 0) [] := ⟨none, 0, rfl, by simp, by simp, by simp, by simp⟩

theorem getD_take (l : List Nat) (n j : Nat) (h : j < n) : (l.take n).getD j 0 = l.getD j 0 := by
  simp [List.getD_eq_getElem?_getD, h]

theorem BytesAt.take {w : World} {a : Option Addr} {len cap : Nat} {l : List Nat} (h : BytesAt w (.slice a len cap) l) (n : Nat) (hn : n ≤ l.length) : BytesAt w (.slice a n cap) (l.take n) := by
  obtain ⟨a', cap', e, h1, h2, h3, h4⟩ := h
  simp only [Value.slice.injEq] at e
  obtain ⟨rfl, rfl, rfl⟩ := e
  have hl : (l.take n).length = n := by simp; omega
  refine ⟨a, cap, by rw [hl], by omega, h2, fun c hc => h3 c (List.mem_of_mem_take hc), fun hne => ?_⟩
  obtain ⟨b, off, rfl, h5⟩ := h4 (by rintro rfl; simp at hne)
  refine ⟨b, off, rfl, fun j hj => ?_⟩
  rw [getD_take l n j (by omega)]
  exact h5 j (by omega)

/-- The cells of a row of bytes. -/
def cellsOf (l : List Nat) : List Value := l.map fun c : Nat => Value.int .u8 (Int.ofNat c)

theorem BytesAt.of_owns {w : World} {base : Nat} {v : Value} {n : Nat} {l : List Nat} (h : w.ownsRow base 5 1 v n (cellsOf l)) (hb : ∀ c ∈ l, c < 256) : BytesAt w v l := by
  obtain ⟨h1, h2⟩ := h
  have hn : l.length = n := by simpa [cellsOf] using h1
  subst hn
  rcases h2 with ⟨rfl, h0⟩ | ⟨g, cap, cur, rfl, hg, hh, hle, hm, hs, ht⟩
  · have : l = [] := List.length_eq_zero_iff.mp h0
    subst this
    exact BytesAt.nil w
  · refine ⟨_, cap, rfl, hle, hm, hb, fun hne => ⟨g, 0, rfl, fun j hj => ?_⟩⟩
    have hj2 : (cellsOf l)[j]? = some (.int .u8 ((l.getD j 0 : Nat) : Int)) := by
      simp [cellsOf, List.getD_eq_getElem?_getD, List.getElem?_eq_getElem hj]
    rw [← ht, List.getElem?_take_of_lt (by omega)] at hj2
    simp only [World.cell?, hh, Nat.zero_add]
    simpa using hj2

theorem ownsRow_below {w w' : World} {base : Nat} {v : Value} {n : Nat} {xs : List Value} (h : w.ownsRow base 5 1 v n xs) (hb : Below w.heap.size w w') : w'.ownsRow base 5 1 v n xs := by
  refine ⟨h.1, ?_⟩
  rcases h.2 with h0 | ⟨g, cap, cur, rfl, hg, hh, hrest⟩
  · exact .inl h0
  · exact .inr ⟨g, cap, cur, rfl, hg, by rw [hb.block g (Array.getElem?_eq_some_iff.mp hh).1]; exact hh, hrest⟩

theorem below_on {w u v : World} (h : Below w.heap.size w u) (k : Below u.heap.size u v) : Below w.heap.size w v := h.trans (k.mono h.size)

/-- A row of numbers that came in, as bytes. -/
theorem bytes_of_row {w : World} {a : Option Addr} {len cap : Nat} {zs : List Int}
    (h : (a = none ∧ len = 0 ∧ cap = 0 ∧ zs = []) ∨ ∃ x, a = some x ∧ len ≤ cap ∧ cap ≤ maxLen ∧ zs.length = cap ∧ (∀ i, i < zs.length → w.cell? (x.add i) = some (.int .u8 (zs.getD i 0))) ∧ ∀ n ∈ zs, (Lit.int .u8 n).wf = true) :
    ∃ l : List Nat, l.length = len ∧ BytesAt w (.slice a len cap) l := by
  rcases h with ⟨rfl, rfl, rfl, rfl⟩ | ⟨x, rfl, h1, h2, h3, h4, h5⟩
  · exact ⟨[], rfl, BytesAt.nil w⟩
  · have hl : ((zs.take len).map Int.toNat).length = len := by simp; omega
    refine ⟨(zs.take len).map Int.toNat, hl, some x, cap, by rw [hl], by omega, h2, fun c hc => ?_, fun hne => ?_⟩
    · obtain ⟨n, hn, rfl⟩ := List.mem_map.mp hc
      have := bounds_u8 (h5 n (List.mem_of_mem_take hn))
      omega
    · have hz : 0 < zs.length := by
        have := List.length_pos_iff.mpr hne
        omega
      obtain ⟨b, off, rfl, hc⟩ := ints_at h4 hz
      refine ⟨b, off, rfl, fun j hj => ?_⟩
      rw [hl] at hj
      rw [hc j (by omega)]
      have hjz : j < zs.length := by omega
      have hb := bounds_u8 (h5 zs[j] (List.getElem_mem hjz))
      have e1 : zs.getD j 0 = zs[j] := by simp [List.getD_eq_getElem?_getD, hjz]
      have e2 : ((zs.take len).map Int.toNat).getD j 0 = zs[j].toNat := by
        simp [List.getD_eq_getElem?_getD, List.getElem?_take_of_lt hj, hjz]
      rw [e1, e2]
      congr 2
      omega

theorem Try.info5 : (Try.prog.info? 5).map (fun i => (i.zero, i.size, i.bytes)) = some (some (.int .u8 0), 1, 1) := by kernel_rfl
end Go.Proofs.Ytjhbaplnkigifaa

namespace Go.Proofs.Ytjhbaplnkigifaa
open Go.RowKit Plain
set_option linter.unusedVariables false

theorem mask127 {c : Int} (h₀ : 0 ≤ c) (h₁ : c ≤ 255) : bits .and .u8 c 127 = c % 128 := bits_mask .u8 8 (by decide) wraps_u8 7 (by decide) c h₀ (by omega)

/-- A group of seven bits is laid above those that are there. -/
theorem or_add (X c i : Nat) (hX : X < 2 ^ (7 * i)) (hi : i ≤ 9) (hc : c < 128) (h9 : i = 9 → c ≤ 1) :
    bits .or .u64 (X : Int) (IntKind.u64.wrap ((c : Int) * 2 ^ (7 * i))) = ((X + c * 2 ^ (7 * i) : Nat) : Int) := by
  have h1 : c * 2 ^ (7 * i) < 2 ^ 64 := by
    by_cases h : i = 9
    · have := h9 h
      subst h
      have : c * 2 ^ 63 ≤ 1 * 2 ^ 63 := Nat.mul_le_mul_right _ this
      show c * 2 ^ 63 < 2 ^ 64
      omega
    · have h3 : c * 2 ^ (7 * i) ≤ 127 * 2 ^ 56 := Nat.mul_le_mul (by omega) (Nat.pow_le_pow_right (by decide) (by omega))
      omega
  have h2 : X < 2 ^ 64 := Nat.lt_of_lt_of_le hX (Nat.pow_le_pow_right (by decide) (by omega))
  have e : ((c : Int) * 2 ^ (7 * i)) = ((c * 2 ^ (7 * i) : Nat) : Int) := by simp
  rw [e, IntWalk.u64_in _ ⟨by omega, by omega⟩, u64_or_nat X _ (by omega) (by omega)]
  rw [Nat.or_comm, ← Nat.shiftLeft_eq, ← Nat.shiftLeft_add_eq_or_of_lt hX, Nat.shiftLeft_eq, Nat.add_comm]

theorem drop_n {l : List Nat} {k : Nat} (h : k < l.length) : l.drop k = l.getD k 0 :: l.drop (k + 1) := by
  rw [List.drop_eq_getElem_cons h]
  simp [List.getD_eq_getElem?_getD, List.getElem?_eq_getElem h]

theorem take_snoc {l : List Nat} {k : Nat} (h : k < l.length) : l.take (k + 1) = l.take k ++ [l.getD k 0] := by
  rw [List.take_succ_eq_append_getElem h]
  simp [List.getD_eq_getElem?_getD, List.getElem?_eq_getElem h]

theorem dn2 (w : World) (a b : Nat) : ∃ n, (w.drewN a).drewN b = w.drewN n := ⟨a + b, World.drewN_drewN _ _ _⟩

theorem or_zero {X c : Nat} (h : bits .or .u64 (X : Int) (IntKind.u64.wrap ((c : Int) % 128 * 2 ^ (7 * 0))) = ((X + c % 128 * 2 ^ (7 * 0) : Nat) : Int)) : bits .or .u64 (X : Int) ((c : Int) % 128) = ((X + c % 128 * 2 ^ (7 * 0) : Nat) : Int) := by
  rw [show ((c : Int) % 128 * 2 ^ (7 * 0)) = (c : Int) % 128 by simp, IntWalk.u64_in _ ⟨by omega, by omega⟩] at h
  exact h

theorem acc_lt (X c k : Nat) (hX : X < 2 ^ (7 * k)) : X + c % 128 * 2 ^ (7 * k) < 2 ^ (7 * (k + 1)) := by
  rw [pow_step]
  have : c % 128 * 2 ^ (7 * k) ≤ 127 * 2 ^ (7 * k) := Nat.mul_le_mul_right _ (by omega)
  omega

theorem ret3 {a a' b b' c c' : Int} (h1 : a = a') (h2 : b = b') (h3 : c = c') : Ending.returned (.tuple #[.int .u64 a, .int .i64 b, .int .i64 c]) = .returned (.tuple #[.int .u64 a', .int .i64 b', .int .i64 c']) := by rw [h1, h2, h3]




end Go.Proofs.Ytjhbaplnkigifaa

namespace Go.Proofs.Ytjhbaplnkigifaa
open Go.RowKit Plain
set_option linter.unusedVariables false

theorem drop_at (s : ByteArray) (k : Nat) (h : k < s.size) : s.data.toList.drop k = s[k] :: s.data.toList.drop (k + 1) := by
  rw [List.drop_eq_getElem_cons (by simpa using h)]; rfl

theorem drop_off (s : ByteArray) (k : Nat) (h : s.size ≤ k) : s.data.toList.drop k = [] := List.drop_eq_nil_of_le (by simpa using h)

theorem ret_i {k : IntKind} {a b : Int} (h : a = b) : Ending.returned (.int k a) = .returned (.int k b) := by rw [h]

theorem dn3 (w : World) (a b c : Nat) : ∃ n, ((w.drewN a).drewN b).drewN c = w.drewN n := ⟨a + (b + c), by rw [World.drewN_drewN, World.drewN_drewN]⟩

/-- The bytes of a from f to t, held against those of b from f on. -/
def piece (a b : ByteArray) (f t : Nat) : Int := cmpP ((a.data.toList.drop f).take (t - f)) (b.data.toList.drop f)

theorem piece_end (a b : ByteArray) (t : Nat) : piece a b t t = 0 := by simp [piece, cmpP]

theorem piece_off (a b : ByteArray) (f t : Nat) (h : f < t) (ht : t ≤ a.size) (hb : b.size ≤ f) : piece a b f t = 1 := by
  unfold piece
  rw [drop_at a f (by omega), drop_off b f hb, show t - f = (t - f - 1) + 1 by omega]
  rfl

theorem piece_step (a b : ByteArray) (f t : Nat) (h : f < t) (ht : t ≤ a.size) (hb : f < b.size) :
    piece a b f t = if (a[f]'(by omega)).toNat < b[f].toNat then -1 else if b[f].toNat < (a[f]'(by omega)).toNat then 1 else piece a b (f + 1) t := by
  unfold piece
  rw [drop_at a f (by omega), drop_at b f hb, show t - f = (t - (f + 1)) + 1 by omega]
  rfl

set_option maxHeartbeats 400000 in
theorem comparePiece (a b : ByteArray) (f t : Nat) (w : World) (ha : a.size ≤ maxLen) (hb : b.size ≤ maxLen) (hft : f ≤ t) (ht : t ≤ a.size) :
    Calls Try.prog 55 #[.string a, .string b, .int .i64 f, .int .i64 t] w fun e w' => e = .returned (.int .i64 (piece a b f t)) ∧ ∃ n, w' = w.drewN n := by
  unfold maxLen at ha hb
  go_enter Try.func55, Try.ntmps55
  go_wp2
  go_loopw [9] (fun i w' => ∃ k n : Nat, w' = w.drewN n ∧ f ≤ k ∧ k ≤ t ∧ i = .int .i64 k ∧ piece a b f t = piece a b k t) (fun i _ => t - (intOf i).toNat)
  case atStart => exact ⟨f, 0, rfl, by omega, by omega, rfl, rfl⟩
  case round =>
    obtain ⟨k, n, rfl, hka, hkb, rfl, hr⟩ := hrel
    have HR : Hid (piece a b f t = piece a b k t) := hr
    clear hr
    by_cases h1 : k < t
    · by_cases h2 : k < b.size
      · have hka' : k < a.size := by omega
        have HS : Hid (piece a b f t = if a[k].toNat < b[k].toNat then -1 else if b[k].toNat < a[k].toNat then 1 else piece a b (k + 1) t) := by
          unfold Hid; rw [HR.out, piece_step a b k t h1 ht h2]
        clear HR
        have hg : decide (b.size ≤ k) = false := by simpa using h2
        go_wp2
        go_quiet (fail)
        go_wp2
        · go_ret
          exact ⟨ret_i (by rw [HS.out, if_neg (by omega), if_pos (by assumption)]), dn2 _ _ _⟩
        · go_quiet (fail)
          go_wp2
          · go_ret
            exact ⟨ret_i (by rw [HS.out, if_pos (by assumption)]), dn3 _ _ _ _⟩
          · go_roundw
            case rel => exact ⟨k + 1, _, rfl, by omega, by omega, by go_num, by rw [HS.out, if_neg (by assumption), if_neg (by assumption)]⟩
            case measure => simp [intOf]; omega
      · have HS : Hid (piece a b f t = 1) := by unfold Hid; rw [HR.out, piece_off a b k t h1 ht (by omega)]
        clear HR
        have hg : decide (b.size ≤ k) = true := by simp; omega
        go_wp2
        go_quiet (fail)
        go_wp2
        go_ret
        exact ⟨ret_i HS.out.symm, dn2 _ _ _⟩
    · have hkk : k = t := by omega
      have HS : Hid (piece a b f t = 0) := by unfold Hid; rw [HR.out, hkk, piece_end]
      clear HR hkk
      go_wp2
      go_ret
      exact ⟨ret_i HS.out.symm, _, rfl⟩
end Go.Proofs.Ytjhbaplnkigifaa

namespace Go.Proofs.Ytjhbaplnkigifaa
open Go.RowKit Go.Lib Plain
set_option linter.unusedVariables false

theorem width_pos (s : ByteArray) (pos : Nat) (h : pos < s.size) : 1 ≤ (Utf8.decode s pos).2 := by
  by_cases ha : (s[pos]'h).toNat < 128
  · rw [decode_ascii s pos h ha]
    exact Nat.le_refl _
  · exact (decode_high s pos h (by omega)).2

theorem piece_take (a b : ByteArray) (f t : Nat) (hft : f ≤ t) (ht : t ≤ a.size) (hr : cmpL a.data.toList b.data.toList = cmpL (a.data.toList.drop f) (b.data.toList.drop f)) :
    (piece a b f t ≠ 0 → cmpL a.data.toList b.data.toList = piece a b f t) ∧ (piece a b f t = 0 → cmpL a.data.toList b.data.toList = cmpL (a.data.toList.drop t) (b.data.toList.drop t)) := by
  have h := cmpP_take (t - f) (a.data.toList.drop f) (b.data.toList.drop f) (by rw [List.length_drop]; exact Nat.sub_le_sub_right ht f)
  rw [← hr] at h
  refine ⟨h.1, fun h0 => ?_⟩
  rw [(h.2 h0).2, List.drop_drop, List.drop_drop, show f + (t - f) = t by omega]

theorem piece_last (a b : ByteArray) (f : Nat) (hft : f ≤ a.size) (hr : cmpL a.data.toList b.data.toList = cmpL (a.data.toList.drop f) (b.data.toList.drop f)) (h0 : piece a b f a.size = 0) :
    cmpL a.data.toList b.data.toList = if a.size < b.size then -1 else 0 := by
  rw [(piece_take a b f a.size hft (Nat.le_refl _) hr).2 h0]
  have h1 : a.data.toList.drop a.size = [] := drop_off a a.size (Nat.le_refl _)
  rw [h1]
  by_cases h : a.size < b.size
  · rw [if_pos h, drop_at b a.size h]; rfl
  · rw [if_neg h, drop_off b a.size (by omega)]; rfl

set_option maxHeartbeats 400000 in
theorem compare (a b : ByteArray) (w : World) (ha : a.size ≤ maxLen) (hb : b.size ≤ maxLen) :
    Calls Try.prog 46 #[.string a, .string b] w fun e w' => e = .returned (.int .i64 (cmpL a.data.toList b.data.toList)) ∧ Below w.heap.size w w' := by
  have ha' := ha
  have hb' := hb
  unfold maxLen at ha hb
  go_enter Try.func46, Try.ntmps46
  go_wp2
  go_loopw [5] (fun i w' => ∃ f p : Nat, Below w.heap.size w w' ∧ w'.heap[w.heap.size]? = some (.stringIter a p) ∧ f ≤ a.size ∧ f ≤ p ∧ i = .int .i64 f ∧ cmpL a.data.toList b.data.toList = cmpL (a.data.toList.drop f) (b.data.toList.drop f)) (fun _ w' => a.size - w'.iterPos w.heap.size)
  case atStart => exact ⟨0, 0, (Below.refl _ _).alloc (Nat.le_refl _) _, World.iter_heap w a 0, by omega, by omega, rfl, rfl⟩
  case round =>
    obtain ⟨f, p, hbl, hit, hfa, hfp, rfl, hr⟩ := hrel
    have HR : Hid (cmpL a.data.toList b.data.toList = cmpL (a.data.toList.drop f) (b.data.toList.drop f)) := hr
    clear hr
    by_cases hp : p < a.size
    · have hnx := fun ty => run_next_any_at (P := Try.prog) wr w.heap.size a p ty hit hp
      have hwd := width_pos a p hp
      go_wp2_with (go_at_call 55; refine (comparePiece a b f p _ ha' hb' hfp (by omega)).mono ?_; rintro e w' ⟨rfl, nd, rfl⟩)
      · have hne : (piece a b f p != 0) = true := by assumption
        go_ret
        exact ⟨ret_i ((piece_take a b f p hfp (by omega) HR.out).1 (by simpa using hne)).symm, below_drewN (below_iterAt hbl (Nat.le_refl _) _ _) _⟩
      · have heq : (piece a b f p != 0) = false := by assumption
        go_roundw
        case rel => exact ⟨p, p + (Utf8.decode a p).2, below_drewN (below_iterAt hbl (Nat.le_refl _) _ _) _, iterAt_heap wr _ a p _ hit, by omega, by omega, rfl, (piece_take a b f p hfp (by omega) HR.out).2 (by simpa using heq)⟩
        case measure =>
          have e1 := iterPos_of (w := (wr.iterAt w.heap.size a (p + (Utf8.decode a p).2)).drewN nd) (iterAt_heap wr _ a p _ hit)
          have e2 := iterPos_of hit
          rw [e1, e2]
          omega
    · have hnx := fun ty => run_next_end_at (P := Try.prog) wr w.heap.size a p ty hit hp
      go_wp2_with (go_at_call 55; refine (comparePiece a b f a.size _ ha' hb' hfa (by omega)).mono ?_; rintro e w' ⟨rfl, nd, rfl⟩)
      · have hne : (piece a b f a.size != 0) = true := by assumption
        go_ret
        exact ⟨ret_i ((piece_take a b f a.size hfa (by omega) HR.out).1 (by simpa using hne)).symm, below_drewN hbl _⟩
      · have heq : (piece a b f a.size != 0) = false := by assumption
        go_ret
        exact ⟨ret_i (by rw [piece_last a b f hfa HR.out (by simpa using heq), if_pos (by assumption)]), below_drewN hbl _⟩
      · have heq : (piece a b f a.size != 0) = false := by assumption
        go_ret
        exact ⟨ret_i (by rw [piece_last a b f hfa HR.out (by simpa using heq), if_neg (by assumption)]), below_drewN hbl _⟩
end Go.Proofs.Ytjhbaplnkigifaa

/-! Plain facts on the order of texts, and on what stands above a prefix. -/
namespace Go.Proofs.Ytjhbaplnkigifaa.Plain

theorem u8_of_toNat {x y : UInt8} (h : x.toNat = y.toNat) : x = y := UInt8.toNat_inj.mp h

theorem cmpL_less : ∀ xs ys : List UInt8, Op.bytesLess xs ys = decide (cmpL xs ys < 0)
  | [], [] => rfl
  | [], _ :: _ => rfl
  | _ :: _, [] => rfl
  | x :: xs, y :: ys => by
    simp only [Op.bytesLess, cmpL, cmpL_less xs ys]
    by_cases h1 : x.toNat < y.toNat
    · have : x < y := UInt8.lt_iff_toNat_lt.mpr h1
      simp [h1, this]
    · have n1 : ¬ x < y := fun h => h1 (UInt8.lt_iff_toNat_lt.mp h)
      by_cases h2 : y.toNat < x.toNat
      · have n2 : x ≠ y := fun h => by subst h; omega
        simp [h1, h2, n1, n2]
      · have e := u8_eq h1 h2
        subst e
        simp

theorem cmpL_eq (xs ys : List UInt8) : (xs == ys) = decide (cmpL xs ys = 0) := by
  by_cases h : cmpL xs ys = 0
  · rw [cmpL_zero xs ys h]; simp [cmpL_self]
  · have : xs ≠ ys := fun e => h (by rw [e]; exact cmpL_self ys)
    simp [h, this]

theorem cmpL_trans : ∀ xs ys zs : List UInt8, cmpL xs ys ≤ 0 → cmpL ys zs ≤ 0 → cmpL xs zs ≤ 0
  | [], _, [], _, _ => by simp [cmpL]
  | [], _, _ :: _, _, _ => by simp [cmpL]
  | _ :: _, [], _, h, _ => by simp [cmpL] at h
  | _ :: _, _ :: _, [], _, h => by simp [cmpL] at h
  | x :: xs, y :: ys, z :: zs, h1, h2 => by
    simp only [cmpL] at h1 h2 ⊢
    by_cases a1 : x.toNat < y.toNat
    · by_cases b1 : y.toNat < z.toNat
      · rw [if_pos (by omega)]; omega
      · rw [if_neg b1] at h2
        by_cases b2 : z.toNat < y.toNat
        · rw [if_pos b2] at h2; omega
        · rw [if_pos (by omega)]; omega
    · rw [if_neg a1] at h1
      by_cases a2 : y.toNat < x.toNat
      · rw [if_pos a2] at h1; omega
      · rw [if_neg a2] at h1
        by_cases b1 : y.toNat < z.toNat
        · rw [if_pos (by omega)]; omega
        · rw [if_neg b1] at h2
          by_cases b2 : z.toNat < y.toNat
          · rw [if_pos b2] at h2; omega
          · rw [if_neg b2] at h2
            rw [if_neg (by omega), if_neg (by omega)]
            exact cmpL_trans xs ys zs h1 h2

theorem aft_none : ∀ p : List UInt8, aft p = none → ∀ c ∈ p, c.toNat = 255
  | [], _, c, hc => by simp at hc
  | y :: p, h, c, hc => by
    unfold aft at h
    cases e : aft p with
    | some q => rw [e] at h; simp at h
    | none =>
      rw [e] at h
      by_cases hy : y.toNat = 255
      · rcases List.mem_cons.mp hc with rfl | hc
        · exact hy
        · exact aft_none p e c hc
      · simp [hy] at h

theorem pre_none : ∀ p a : List UInt8, (∀ c ∈ p, c.toNat = 255) → (0 ≤ cmpL a p ↔ p <+: a)
  | [], [], _ => by simp [cmpL]
  | [], _ :: _, _ => by simp [cmpL]
  | y :: p, [], _ => by simp [cmpL]
  | y :: p, z :: a, h => by
    have hy := h y (by simp)
    have hz := z.toNat_lt
    have ih := pre_none p a (fun c hc => h c (by simp [hc]))
    simp only [cmpL]
    rw [List.cons_prefix_cons]
    by_cases e : z.toNat = y.toNat
    · rw [if_neg (by omega), if_neg (by omega), ih]
      have := u8_of_toNat e
      simp [this]
    · rw [if_pos (by omega)]
      have : y ≠ z := fun h => e (by rw [h])
      simp [this]

theorem pre_some : ∀ p a q : List UInt8, aft p = some q → ((0 ≤ cmpL a p ∧ cmpL a q < 0) ↔ p <+: a)
  | [], _, _, h => by simp [aft] at h
  | y :: p, a, q, h => by
    unfold aft at h
    cases e : aft p with
    | some q' =>
      rw [e] at h
      simp only [Option.some.injEq] at h
      subst h
      cases a with
      | nil => simp [cmpL]
      | cons z a =>
        have ih := pre_some p a q' e
        simp only [cmpL]
        rw [List.cons_prefix_cons]
        by_cases h1 : z.toNat < y.toNat
        · have : y ≠ z := fun h => by subst h; omega
          simp [h1, this]
        · by_cases h2 : y.toNat < z.toNat
          · have : y ≠ z := fun h => by subst h; omega
            simp [h1, h2, this]
          · have := u8_eq h1 h2
            subst this
            simpa using ih
    | none =>
      rw [e] at h
      have hall := aft_none p e
      by_cases hy : y.toNat = 255
      · simp [hy] at h
      · simp only [hy, if_false, Option.some.injEq] at h
        subst h
        have hyl := y.toNat_lt
        have hy1 : (y + 1).toNat = y.toNat + 1 := by rw [UInt8.toNat_add]; simp; omega
        cases a with
        | nil => simp [cmpL]
        | cons z a =>
          have ih := pre_none p a hall
          simp only [cmpL, hy1]
          rw [List.cons_prefix_cons]
          by_cases h1 : z.toNat < y.toNat
          · have : y ≠ z := fun h => by subst h; omega
            simp [h1, this]
          · by_cases h2 : y.toNat < z.toNat
            · have : y ≠ z := fun h => by subst h; omega
              rw [if_neg (show ¬ z.toNat < y.toNat + 1 by omega)]
              by_cases h3 : y.toNat + 1 < z.toNat
              · simp [this, h3]
              · have h4 : ¬ cmpL a [] < 0 := by cases a <;> simp [cmpL]
                simp [this, h3, h4]
            · have := u8_eq h1 h2
              subst this
              simpa using ih

theorem aft_len : ∀ p q : List UInt8, aft p = some q → q.length ≤ p.length
  | [], _, h => by simp [aft] at h
  | y :: p, q, h => by
    unfold aft at h
    cases e : aft p with
    | some q' =>
      rw [e] at h
      simp only [Option.some.injEq] at h
      subst h
      have := aft_len p q' e
      simp; omega
    | none =>
      rw [e] at h
      by_cases hy : y.toNat = 255
      · simp [hy] at h
      · simp only [hy, if_false, Option.some.injEq] at h
        subst h
        simp

theorem pre_len {p a : List UInt8} (h : p <+: a) : p.length ≤ a.length := h.length_le
theorem pre_take {p a : List UInt8} : p <+: a ↔ p.length ≤ a.length ∧ a.take p.length = p :=
  ⟨fun h => ⟨h.length_le, (List.prefix_iff_eq_take.mp h).symm⟩, fun h => List.prefix_iff_eq_take.mpr h.2.symm⟩

theorem pre_cmp (p a : List UInt8) (h : p <+: a) : 0 ≤ cmpL a p := by
  obtain ⟨t, rfl⟩ := h
  induction p with
  | nil => cases t <;> simp [cmpL]
  | cons y p ih => simpa [cmpL] using ih
end Go.Proofs.Ytjhbaplnkigifaa.Plain
