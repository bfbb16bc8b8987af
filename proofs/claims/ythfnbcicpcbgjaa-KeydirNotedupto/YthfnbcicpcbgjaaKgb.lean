import Derived.Test.YthfnbcicpcbgjaaKga
import Derived.Test.YthfnbcicpcbgjaaKtk
/-! keydir: Note of whatever key; the law's mod. -/
namespace Go.Proofs.Ythfnbcicpcbgjaa
open Go.RowKit Plain
set_option linter.unusedVariables false
set_option linter.unusedSimpArgs false

set_option maxHeartbeats 4000000 in
theorem noteBad {D : Nat → Prop} {gd : Nat} {l : List Ke} (key : ByteArray) (en : En) (w : World) (h : DirAt D w gd l) (hk : key.size ≤ maxLen) (hn : okKey key = false) (hf : findL key l = none) : Calls Try.prog 10 #[.pointer (some ⟨gd, 0, none⟩), .string key, en.v] w fun e w' => e = .returned (.tuple #[.bool false, .int .i64 42]) ∧ Below w.heap.size w w' := by
  obtain ⟨w0, hw0⟩ : ∃ w0, w.alloc (.cells #[.int .i64 en.seg, .int .i64 en.pos, .int .i64 en.size, .int .i64 en.off, .int .i64 en.time, .bool en.tomb] 26) = w0 := ⟨_, rfl⟩
  have hb0 : Below w.heap.size w w0 := by rw [← hw0]; exact (Below.refl _ _).alloc (Nat.le_refl _) _
  have HEN : Hid (∀ u, Below w0.heap.size w0 u → EnAt u w.heap.size en) := fun u hu => by
    have h : EnAt w0 w.heap.size en := by rw [← hw0]; exact EnAt.new w en
    exact h.block (hu.block _ h.lt)
  have HG : Hid (Calls Try.prog 14 #[.pointer (some ⟨gd, 0, none⟩), .string key] w0 fun e w' => e = .returned (.tuple #[En.zero.v, .bool false]) ∧ Below w0.heap.size w0 w') := by
    have h2 := getOf key w0 (h.later hb0) hk
    rw [hf] at h2
    exact h2
  have HP : Hid (∀ u, Calls Try.prog 27 #[.pointer (some ⟨gd, 0, none⟩), .string key, en.v] u fun e w' => e = .returned (.tuple #[En.zero.v, .bool false, .int .i64 42]) ∧ Below u.heap.size u w') := fun u => putBad key en u hk hn
  obtain ⟨old, hold⟩ : ∃ old, En.zero = old := ⟨_, rfl⟩
  rw [hold] at HG HP
  clear hold h hf hn
  go_enter Try.func10, Try.ntmps10
  go_wp2_with fail
  refine HG.out.mono ?_
  rintro e w1 ⟨rfl, hb1⟩
  obtain ⟨w2, hw2⟩ : ∃ w2, w1.alloc (.cells #[.int .i64 old.seg, .int .i64 old.pos, .int .i64 old.size, .int .i64 old.off, .int .i64 old.time, .bool old.tomb] 26) = w2 := ⟨_, rfl⟩
  have hb12 : Below w1.heap.size w1 w2 := by rw [← hw2]; exact (Below.refl _ _).alloc (Nat.le_refl _) _
  have hb02 : Below w0.heap.size w0 w2 := below_step' hb1 hb12
  have HB2 : Hid (Below w.heap.size w w2) := below_step' hb0 hb02
  obtain ⟨d0, d1, d2, d3, d4, d5⟩ := HEN.out w2 hb02
  clear hb1 hb12 hb02
  go_wp2_with fail
  refine (HP.out w2).mono ?_
  rintro e w3 ⟨rfl, hb3⟩
  have HB3 : Hid (Below w.heap.size w w3) := below_step' HB2.out hb3
  clear hb3
  go_wp2
  refine bodyPost_ret (v := .tuple #[.bool false, .int .i64 42]) ?_ rfl ⟨rfl, ?_⟩
  · simp only [results, hresNote]
    go_simp
  · exact HB3.out.alloc HB3.out.size _

/-- Note of whatever key, where every key that stands there is one. -/
theorem noteAny {D : Nat → Prop} {gd : Nat} {l : List Ke} (x : Kr) (u : World) (hD : ∀ g, u.heap.size ≤ g → ¬ D g) (h : DirAt D u gd l) (hx : x.key.size ≤ maxLen) (hl : l.length ≤ 1125899906842600) (hf : okKey x.key = false → findL x.key l = none) :
    Calls Try.prog 10 #[.pointer (some ⟨gd, 0, none⟩), .string x.key, x.ke.e.v] u fun e w' => e = .returned (.tuple #[.bool (okKey x.key && noteB x.key x.ke.e l), .int .i64 (if okKey x.key then 0 else 42)]) ∧ u.grownBy w' (some gd) ∧ DirAt D w' gd (noteK l x) := by
  unfold noteK
  by_cases hk : okKey x.key = true
  · have hsz : 1 ≤ x.key.size ∧ x.key.size ≤ 64 := by simpa [okKey] using hk
    rw [if_pos hk, if_pos hk, hk, Bool.true_and]
    exact noteOf x.key x.ke.e u hD h hsz.1 hsz.2 hl
  · have hk' : okKey x.key = false := by simpa using hk
    rw [if_neg hk, if_neg hk, hk', Bool.false_and]
    exact (noteBad x.key x.ke.e u h hx hk' (hf hk')).mono fun e w' ⟨h1, h2⟩ => ⟨h1, below_grow h2 _, h.later h2⟩
theorem NotedBy.bad {S : List Kr} {l : List Ke} (h : NotedBy S l) {key : ByteArray} (hk : okKey key = false) : findL key l = none := by
  obtain ⟨o, ho, e⟩ := h.2 key
  cases o with
  | none => exact e
  | some r =>
    have h1 := ho.2.1
    rw [ho.2.2.1, hk] at h1
    cases h1
theorem noteK_len (l : List Ke) (x : Kr) : (noteK l x).length ≤ l.length + 1 := by
  unfold noteK noteL
  split
  · split
    · exact insL_len _ _ _
    · omega
  · omega

theorem modOf (x : Int) (n : Nat) (w : World) (hn : 1 ≤ n) (hn2 : n ≤ 1099511627776) (hx : I64 x) : Calls Try.prog 12 #[.int .i64 x, .int .i64 n] w fun e w' => (∃ k : Nat, k < n ∧ e = .returned (.int .i64 k)) ∧ w' = w := by
  have hp : (0 : Int) < (n : Int) := by omega
  have h1 := Int.tmod_lt_of_pos x hp
  have h2 := Int.lt_tmod_of_pos x hp
  have H1 : Hid (x.tmod n < n ∧ -(n : Int) < x.tmod n) := ⟨h1, h2⟩
  clear h1 h2
  go_enter Try.func12, Try.ntmps12
  go_wp2
  · have h3 : x.tmod (n : Int) < 0 := by assumption
    go_ret
    refine ⟨⟨(x.tmod (n : Int) + n).toNat, by have := H1.out; omega, ?_⟩, rfl⟩
    have e : wrap64 (x.tmod (n : Int) + n) = ((x.tmod (n : Int) + n).toNat : Int) := by
      have h4 := H1.out
      unfold wrap64
      omega
    exact congrArg (fun z => Ending.returned (.int .i64 z)) e
  · have h3 : 0 ≤ x.tmod (n : Int) := by assumption
    go_ret
    refine ⟨⟨(x.tmod (n : Int)).toNat, by have := H1.out; omega, ?_⟩, rfl⟩
    have e : x.tmod (n : Int) = ((x.tmod (n : Int)).toNat : Int) := by omega
    exact congrArg (fun z => Ending.returned (.int .i64 z)) e
end Go.Proofs.Ythfnbcicpcbgjaa
