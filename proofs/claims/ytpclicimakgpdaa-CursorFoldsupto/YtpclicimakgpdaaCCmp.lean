import Derived.Test.YtpclicimakgpdaaProg
import Derived.WalkKit
/-! Plain facts on comparing lists of bytes. -/
namespace Go.Proofs.Ytpclicimakgpdaa.Plain

def cmpL : List UInt8 → List UInt8 → Int
  | [], [] => 0
  | [], _ :: _ => -1
  | _ :: _, [] => 1
  | x :: xs, y :: ys => if x.toNat < y.toNat then -1 else if y.toNat < x.toNat then 1 else cmpL xs ys

def cmpP : List UInt8 → List UInt8 → Int
  | [], _ => 0
  | _ :: _, [] => 1
  | x :: xs, y :: ys => if x.toNat < y.toNat then -1 else if y.toNat < x.toNat then 1 else cmpP xs ys

theorem u8_eq {x y : UInt8} (h1 : ¬ x.toNat < y.toNat) (h2 : ¬ y.toNat < x.toNat) : x = y :=
  UInt8.toNat_inj.mp (by omega)

theorem cmpP_take (n : Nat) : ∀ (xs ys : List UInt8), n ≤ xs.length → (cmpP (xs.take n) ys ≠ 0 → cmpL xs ys = cmpP (xs.take n) ys) ∧ (cmpP (xs.take n) ys = 0 → n ≤ ys.length ∧ cmpL xs ys = cmpL (xs.drop n) (ys.drop n)) := by
  induction n with
  | zero => intro xs ys _; simp [cmpP]
  | succ n ih =>
    intro xs ys h
    match xs, ys with
    | [], _ => simp at h
    | x :: xs, [] => simp [cmpP, cmpL]
    | x :: xs, y :: ys =>
      have := ih xs ys (by simpa using h)
      simp only [List.take_succ_cons, cmpP, cmpL, List.drop_succ_cons, List.length_cons]
      split
      · simp
      · split
        · simp
        · exact ⟨this.1, fun h => ⟨by have := (this.2 h).1; omega, (this.2 h).2⟩⟩

theorem cmpP_all (xs ys : List UInt8) : (cmpP xs ys ≠ 0 → cmpL xs ys = cmpP xs ys) ∧ (cmpP xs ys = 0 → cmpL xs ys = if xs.length < ys.length then -1 else 0) := by
  have h := cmpP_take xs.length xs ys (Nat.le_refl _)
  rw [List.take_length] at h
  refine ⟨h.1, fun h0 => ?_⟩
  obtain ⟨h1, h2⟩ := h.2 h0
  rw [h2, List.drop_length]
  split
  · rename_i hlt
    cases hd : ys.drop xs.length with
    | nil => have := congrArg List.length hd; simp at this; omega
    | cons => rfl
  · rw [List.drop_eq_nil_of_le (by omega)]; rfl

theorem cmpL_self : ∀ xs : List UInt8, cmpL xs xs = 0
  | [] => rfl
  | x :: xs => by simp [cmpL, cmpL_self xs]

theorem cmpL_neg : ∀ xs ys : List UInt8, cmpL ys xs = - cmpL xs ys
  | [], [] => rfl
  | [], _ :: _ => rfl
  | _ :: _, [] => rfl
  | x :: xs, y :: ys => by
    simp only [cmpL]
    rw [cmpL_neg xs ys]
    split <;> split <;> (try omega) <;> (try rfl) 

theorem cmpL_zero : ∀ xs ys : List UInt8, cmpL xs ys = 0 → xs = ys
  | [], [], _ => rfl
  | [], _ :: _, h => by simp [cmpL] at h
  | _ :: _, [], h => by simp [cmpL] at h
  | x :: xs, y :: ys, h => by
    simp only [cmpL] at h
    split at h
    · simp at h
    · split at h
      · simp at h
      · rename_i h1 h2; rw [u8_eq h1 h2, cmpL_zero xs ys h]

theorem cmpL_range : ∀ xs ys : List UInt8, cmpL xs ys = -1 ∨ cmpL xs ys = 0 ∨ cmpL xs ys = 1
  | [], [] => by simp [cmpL]
  | [], _ :: _ => by simp [cmpL]
  | _ :: _, [] => by simp [cmpL]
  | x :: xs, y :: ys => by
    simp only [cmpL]
    split
    · simp
    · split
      · simp
      · exact cmpL_range xs ys

theorem cmpP_range : ∀ xs ys : List UInt8, cmpP xs ys = -1 ∨ cmpP xs ys = 0 ∨ cmpP xs ys = 1
  | [], _ => by simp [cmpP]
  | _ :: _, [] => by simp [cmpP]
  | x :: xs, y :: ys => by
    simp only [cmpP]
    split
    · simp
    · split
      · simp
      · exact cmpP_range xs ys

/-- The least text above all that begin with l, if there is one. -/
def aft : List UInt8 → Option (List UInt8)
  | [] => none
  | y :: p => match aft p with | some q => some (y :: q) | none => if y.toNat = 255 then none else some [y + 1]

theorem aft_nil : aft [] = none := rfl

theorem aft_snoc (x : UInt8) : ∀ l : List UInt8, aft (l ++ [x]) = if x.toNat = 255 then aft l else some (l ++ [x + 1])
  | [] => rfl
  | y :: l => by
    rw [List.cons_append, aft, aft_snoc x l]
    by_cases h : x.toNat = 255
    · simp only [h, if_true]; rfl
    · simp only [h, if_false]; rfl
end Go.Proofs.Ytpclicimakgpdaa.Plain
