import Derived.Test.YtgpmhflndcppeaaProg
import Derived.WalkKit
import Derived.WalkLawsBesides
import Derived.Deep.QuietTactic
import Derived.BigQuiet
import Derived.WalkSmall
import Derived.OpenShut
import Derived.Deep.AppendSrc
import Derived.Deep.Upon
import Derived.Laws.IdiomCopy
import Derived.Laws.IdiomStrings
/-! Plain facts on short numbers. -/
namespace Go.Proofs.Ytgpmhflndcppeaa.Plain

def uvF : Nat → Nat → List Nat
  | 0, v => [v]
  | k + 1, v => if v < 128 then [v] else (v % 128 + 128) :: uvF k (v / 128)
theorem uvF_enough : ∀ (k m v : Nat), v ≤ k → v ≤ m → uvF k v = uvF m v
  | 0, 0, v, _, _ => rfl
  | 0, m + 1, v, h, _ => by
    obtain rfl : v = 0 := by omega
    rfl
  | k + 1, 0, v, _, h => by
    obtain rfl : v = 0 := by omega
    rfl
  | k + 1, m + 1, v, h, h' => by
    simp only [uvF]
    split
    · rfl
    · rw [uvF_enough k m (v / 128) (by omega) (by omega)]
def uv (v : Nat) : List Nat := uvF v v

theorem uv_lt {v : Nat} (h : v < 128) : uv v = [v] := by
  unfold uv
  cases v with
  | zero => rfl
  | succ v => simp only [uvF]; rw [if_pos h]
theorem uv_ge {v : Nat} (h : ¬ v < 128) : uv v = (v % 128 + 128) :: uv (v / 128) := by
  unfold uv
  cases v with
  | zero => omega
  | succ v =>
    simp only [uvF]
    rw [if_neg h, uvF_enough v ((v + 1) / 128) ((v + 1) / 128) (by omega) (Nat.le_refl _)]

/-- What bytes say that are read as a short number, i of them having been read, which came to acc. -/
def rdGo : List Nat → Nat → Nat → Nat × Nat × Nat
  | [], _, _ => (0, 0, 10)
  | c :: cs, i, acc =>
    if (0 < i ∧ c = 0) ∨ (i = 9 ∧ c ≠ 1) then (0, 0, 11)
    else if c < 128 then (acc + c % 128 * 2 ^ (7 * i), i + 1, 0)
    else rdGo cs (i + 1) (acc + c % 128 * 2 ^ (7 * i))

def rd (l : List Nat) : Nat × Nat × Nat := rdGo l 0 0

theorem uv_pos (v : Nat) : 1 ≤ (uv v).length := by
  by_cases h : v < 128
  · rw [uv_lt h]; simp
  · rw [uv_ge h]; simp

theorem uv_byte : ∀ (v : Nat), ∀ c ∈ uv v, c < 256 := by
  intro v
  induction v using Nat.strongRecOn with
  | ind v ih =>
    by_cases h : v < 128
    · rw [uv_lt h]; simp; omega
    · rw [uv_ge h]
      intro c hc
      rcases List.mem_cons.mp hc with rfl | hc
      · omega
      · exact ih (v / 128) (by omega) c hc

theorem pow_step (i : Nat) : 2 ^ (7 * (i + 1)) = 2 ^ (7 * i) * 128 := by rw [Nat.mul_add, Nat.pow_add]

theorem pow_le_of {u i : Nat} (hu : 0 < u) (h : u * 2 ^ (7 * i) < 2 ^ 64) : i ≤ 9 := by
  apply Classical.byContradiction
  intro hi
  have h1 : 2 ^ 70 ≤ 2 ^ (7 * i) := Nat.pow_le_pow_right (by decide) (by omega)
  have h2 : 1 * 2 ^ (7 * i) ≤ u * 2 ^ (7 * i) := Nat.mul_le_mul_right _ hu
  have h3 : (2 : Nat) ^ 64 < 2 ^ 70 := by decide
  omega

/-- What is written is read back, whatever stands behind. -/
theorem rd_uv : ∀ (v i acc : Nat) (t : List Nat), v * 2 ^ (7 * i) < 2 ^ 64 → (i = 0 ∨ 0 < v) → i ≤ 9 → rdGo (uv v ++ t) i acc = (acc + v * 2 ^ (7 * i), i + (uv v).length, 0) := by
  intro v
  induction v using Nat.strongRecOn with
  | ind v ih =>
    intro i acc t hlt hv hi
    by_cases h : v < 128
    · rw [uv_lt h]
      simp only [List.singleton_append, rdGo]
      rw [if_neg, if_pos h]
      · simp [Nat.mod_eq_of_lt h]
      · rintro (⟨h1, h2⟩ | ⟨h1, h2⟩)
        · omega
        · subst h1
          have : v * 2 ^ 63 < 2 ^ 64 := hlt
          omega
    · rw [uv_ge h]
      have hm : (v % 128 + 128) % 128 = v % 128 := by omega
      simp only [List.cons_append, rdGo]
      have hi8 : i ≤ 8 := by
        apply Classical.byContradiction
        intro h8
        have e : i = 9 := by omega
        subst e
        have : v * 2 ^ 63 < 2 ^ 64 := hlt
        omega
      rw [if_neg (by omega), if_neg (by omega), hm, ih (v / 128) (by omega) (i + 1) _ t ?_ (.inr (by omega)) (by omega)]
      · have e : v % 128 * 2 ^ (7 * i) + v / 128 * 2 ^ (7 * (i + 1)) = v * 2 ^ (7 * i) := by
          rw [pow_step, ← Nat.mul_assoc, Nat.mul_right_comm, ← Nat.add_mul]
          congr 1
          omega
        rw [Nat.add_assoc, e]
        simp
        omega
      · rw [pow_step]
        have : v / 128 * (2 ^ (7 * i) * 128) ≤ v * 2 ^ (7 * i) := by
          rw [Nat.mul_comm (2 ^ (7 * i)), ← Nat.mul_assoc]
          exact Nat.mul_le_mul_right _ (by omega)
        omega

/-- A part of it is too short. -/
theorem rd_part : ∀ (v i acc n : Nat), v * 2 ^ (7 * i) < 2 ^ 64 → i ≤ 9 → n < (uv v).length → rdGo ((uv v).take n) i acc = (0, 0, 10) := by
  intro v
  induction v using Nat.strongRecOn with
  | ind v ih =>
    intro i acc n hlt hi hn
    cases n with
    | zero => rfl
    | succ n =>
      by_cases h : v < 128
      · rw [uv_lt h] at hn; simp at hn
      · rw [uv_ge h] at hn ⊢
        simp only [List.take_succ_cons, rdGo]
        have hi8 : i ≤ 8 := by
          apply Classical.byContradiction
          intro h8
          have e : i = 9 := by omega
          subst e
          have : v * 2 ^ 63 < 2 ^ 64 := hlt
          omega
        rw [if_neg (by omega), if_neg (by omega)]
        refine ih (v / 128) (by omega) (i + 1) _ n ?_ (by omega) (by simpa using hn)
        rw [pow_step]
        have : v / 128 * (2 ^ (7 * i) * 128) ≤ v * 2 ^ (7 * i) := by
          rw [Nat.mul_comm (2 ^ (7 * i)), ← Nat.mul_assoc]
          exact Nat.mul_le_mul_right _ (by omega)
        omega

/-- Whatever is taken is what is written for it. -/
theorem rd_taken : ∀ (l : List Nat) (i acc : Nat), i ≤ 9 → (∀ c ∈ l, c < 256) → (rdGo l i acc).2.2 = 0 →
    ∃ u, (i = 0 ∨ 0 < u) ∧ (rdGo l i acc).1 = acc + u * 2 ^ (7 * i) ∧ u * 2 ^ (7 * i) < 2 ^ 64 ∧ (rdGo l i acc).2.1 = i + (uv u).length ∧ uv u <+: l
  | [], _, _, _, _, h => by simp [rdGo] at h
  | c :: cs, i, acc, hi, hb, h => by
    have hc := hb c (by simp)
    simp only [rdGo] at h ⊢
    by_cases h1 : (0 < i ∧ c = 0) ∨ (i = 9 ∧ c ≠ 1)
    · rw [if_pos h1] at h; simp at h
    · rw [if_neg h1] at h ⊢
      by_cases h2 : c < 128
      · rw [if_pos h2] at h ⊢
        refine ⟨c, by omega, by simp [Nat.mod_eq_of_lt h2], ?_, by simp [uv_lt h2], by rw [uv_lt h2]; exact ⟨cs, rfl⟩⟩
        by_cases h9 : i = 9
        · subst h9
          have : c = 1 := by omega
          subst this
          decide
        · have h3 : c * 2 ^ (7 * i) ≤ 127 * 2 ^ 56 := Nat.mul_le_mul (by omega) (Nat.pow_le_pow_right (by decide) (by omega))
          omega
      · rw [if_neg h2] at h ⊢
        obtain ⟨u, hu, e1, e2, e3, e4⟩ := rd_taken cs (i + 1) _ (by omega) (fun c hc => hb c (by simp [hc])) h
        have hu' : 0 < u := by omega
        have hge : ¬ (c % 128 + 128 * u) < 128 := by omega
        have hmod : (c % 128 + 128 * u) % 128 + 128 = c := by omega
        have hdiv : (c % 128 + 128 * u) / 128 = u := by omega
        have hval : (c % 128 + 128 * u) * 2 ^ (7 * i) = c % 128 * 2 ^ (7 * i) + u * 2 ^ (7 * (i + 1)) := by
          rw [pow_step, Nat.add_mul, Nat.mul_comm (2 ^ (7 * i)), ← Nat.mul_assoc u, Nat.mul_comm u]
        refine ⟨c % 128 + 128 * u, by omega, ?_, ?_, ?_, ?_⟩
        · rw [e1, hval]; omega
        · rw [hval]
          have hu2 : u * 2 ^ (7 * (i + 1)) + 2 ^ (7 * (i + 1)) ≤ 2 ^ 64 := by
            have hi9 := pow_le_of hu' e2
            by_cases h9 : i + 1 = 9
            · rw [h9] at e2 ⊢; omega
            · obtain ⟨k, hk⟩ : ∃ k, 2 ^ 64 = k * 2 ^ (7 * (i + 1)) := ⟨2 ^ (64 - 7 * (i + 1)), by rw [← Nat.pow_add]; congr 1; omega⟩
              rw [hk] at e2 ⊢
              have := Nat.lt_of_mul_lt_mul_right e2
              calc u * 2 ^ (7 * (i + 1)) + 2 ^ (7 * (i + 1)) = (u + 1) * 2 ^ (7 * (i + 1)) := by rw [Nat.add_mul, Nat.one_mul]
                _ ≤ k * 2 ^ (7 * (i + 1)) := Nat.mul_le_mul_right _ this
          have h4 : c % 128 * 2 ^ (7 * i) < 128 * 2 ^ (7 * i) := Nat.mul_lt_mul_of_pos_right (by omega) (Nat.pow_pos (by decide))
          rw [pow_step] at hu2 ⊢
          omega
        · rw [e3, uv_ge hge, hdiv]; simp; omega
        · rw [uv_ge hge, hmod, hdiv]; exact List.cons_prefix_cons.mpr ⟨rfl, e4⟩

/-- Where nothing is taken. -/
theorem rd_refused : ∀ (l : List Nat) (i acc : Nat), (rdGo l i acc).2.2 ≠ 0 → rdGo l i acc = (0, 0, 10) ∨ rdGo l i acc = (0, 0, 11)
  | [], _, _, _ => by simp [rdGo]
  | c :: cs, i, acc, h => by
    simp only [rdGo] at h ⊢
    by_cases h1 : (0 < i ∧ c = 0) ∨ (i = 9 ∧ c ≠ 1)
    · rw [if_pos h1]; simp
    · rw [if_neg h1] at h ⊢
      by_cases h2 : c < 128
      · rw [if_pos h2] at h; simp at h
      · rw [if_neg h2] at h ⊢
        exact rd_refused cs _ _ h

theorem uv_len : ∀ v i : Nat, v < 2 ^ (7 * (i + 1)) → (uv v).length ≤ i + 1 := by
  intro v
  induction v using Nat.strongRecOn with
  | ind v ih =>
    intro i h
    by_cases h1 : v < 128
    · rw [uv_lt h1]; simp
    · rw [uv_ge h1]
      cases i with
      | zero => simp at h; omega
      | succ i =>
        have := ih (v / 128) (by omega) i (by rw [pow_step] at h; omega)
        simp; omega

theorem uv_len10 {v : Nat} (h : v < 2 ^ 64) : (uv v).length ≤ 10 := uv_len v 9 (Nat.lt_of_lt_of_le h (by decide))

theorem uv_mono : ∀ v w : Nat, v ≤ w → (uv v).length ≤ (uv w).length := by
  intro v
  induction v using Nat.strongRecOn with
  | ind v ih =>
    intro w h
    by_cases h1 : v < 128
    · rw [uv_lt h1]; exact uv_pos w
    · rw [uv_ge h1, uv_ge (show ¬ w < 128 by omega)]
      have := ih (v / 128) (by omega) (w / 128) (by omega)
      simp; omega

/-- No short number begins another one. -/
theorem uv_apart : ∀ v w : Nat, uv v <+: uv w → v = w := by
  intro v
  induction v using Nat.strongRecOn with
  | ind v ih =>
    intro w h
    by_cases h1 : v < 128
    · by_cases h2 : w < 128
      · rw [uv_lt h1, uv_lt h2] at h
        have := List.cons_prefix_cons.mp h
        exact this.1
      · rw [uv_lt h1, uv_ge h2] at h
        have := (List.cons_prefix_cons.mp h).1
        omega
    · by_cases h2 : w < 128
      · rw [uv_ge h1, uv_lt h2] at h
        have := (List.cons_prefix_cons.mp h).1
        omega
      · rw [uv_ge h1, uv_ge h2] at h
        obtain ⟨e1, e2⟩ := List.cons_prefix_cons.mp h
        have := ih (v / 128) (by omega) (w / 128) e2
        omega
end Go.Proofs.Ytgpmhflndcppeaa.Plain

/-! Slices of bytes in memory. -/
namespace Go.Proofs.Ytgpmhflndcppeaa
open Go.RowKit Plain
set_option linter.unusedVariables false

/-- v is a slice of bytes that reads as l. -/
def BytesAt (w : World) (v : Value) (l : List Nat) : Prop :=
  ∃ a cap, v = .slice a l.length cap ∧ l.length ≤ cap ∧ cap ≤ maxLen ∧ (∀ c ∈ l, c < 256) ∧
    (l ≠ [] → ∃ b off, a = some ⟨b, off, none⟩ ∧ ∀ j, j < l.length → w.cell? ⟨b, off + j, none⟩ = some (.int .u8 ((l.getD j 0 : Nat) : Int)))

theorem cell_lt {w : World} {a : Addr} {v : Value} (h : w.cell? a = some v) : a.block < w.heap.size := by
  unfold World.cell? at h
  cases e : w.heap[a.block]? with
  | none => rw [e] at h; simp at h
  | some o => exact (Array.getElem?_eq_some_iff.mp e).1

theorem BytesAt.of_cells {w w' : World} {v : Value} {l : List Nat} (h : BytesAt w v l) (hc : ∀ b o u, w.cell? ⟨b, o, none⟩ = some u → w'.cell? ⟨b, o, none⟩ = some u) : BytesAt w' v l := by
  obtain ⟨a, cap, rfl, h1, h2, h3, h4⟩ := h
  refine ⟨a, cap, rfl, h1, h2, h3, fun hne => ?_⟩
  obtain ⟨b, off, rfl, h5⟩ := h4 hne
  exact ⟨b, off, rfl, fun j hj => hc _ _ _ (h5 j hj)⟩

theorem BytesAt.later {w w' : World} {v : Value} {l : List Nat} (h : BytesAt w v l) (hb : Below w.heap.size w w') : BytesAt w' v l :=
  h.of_cells fun b o u hu => by rw [hb.cell (cell_lt hu)]; exact hu

theorem BytesAt.drewN {w : World} {v : Value} {l : List Nat} (h : BytesAt w v l) (n : Nat) : BytesAt (w.drewN n) v l := h
theorem BytesAt.len {w : World} {v : Value} {l : List Nat} (h : BytesAt w v l) : l.length ≤ maxLen := by
  obtain ⟨a, cap, rfl, h1, h2, h3, h4⟩ := h
  omega
theorem BytesAt.byte {w : World} {v : Value} {l : List Nat} (h : BytesAt w v l) : ∀ c ∈ l, c < 256 := by
  obtain ⟨a, cap, rfl, h1, h2, h3, h4⟩ := h
  exact h3
theorem BytesAt.nil (w : World) : BytesAt w (.slice none 0 0) [] := ⟨none, 0, rfl, by simp, by simp, by simp, by simp⟩

theorem getD_take (l : List Nat) (n j : Nat) (h : j < n) : (l.take n).getD j 0 = l.getD j 0 := by
  simp [List.getD_eq_getElem?_getD, h]

theorem BytesAt.take {w : World} {a : Option Addr} {len cap : Nat} {l : List Nat} (h : BytesAt w (.slice a len cap) l) (n : Nat) (hn : n ≤ l.length) : BytesAt w (.slice a n cap) (l.take n) := by
  obtain ⟨a', cap', e, h1, h2, h3, h4⟩ := h
  simp only [Value.slice.injEq] at e
  obtain ⟨rfl, rfl, rfl⟩ := e
  have hl : (l.take n).length = n := by simp; omega
  refine ⟨a, cap, by rw [hl], by omega, h2, fun c hc => h3 c (List.mem_of_mem_take hc), fun hne => ?_⟩
  obtain ⟨b, off, rfl, h5⟩ := h4 (by rintro rfl; simp at hne)
  refine ⟨b, off, rfl, fun j hj => ?_⟩
  rw [getD_take l n j (by omega)]
  exact h5 j (by omega)

/-- The cells of a row of bytes. -/
def cellsOf (l : List Nat) : List Value := l.map fun c : Nat => Value.int .u8 (Int.ofNat c)

theorem BytesAt.of_owns {w : World} {base : Nat} {v : Value} {n : Nat} {l : List Nat} (h : w.ownsRow base 5 1 v n (cellsOf l)) (hb : ∀ c ∈ l, c < 256) : BytesAt w v l := by
  obtain ⟨h1, h2⟩ := h
  have hn : l.length = n := by simpa [cellsOf] using h1
  subst hn
  rcases h2 with ⟨rfl, h0⟩ | ⟨g, cap, cur, rfl, hg, hh, hle, hm, hs, ht⟩
  · have : l = [] := List.length_eq_zero_iff.mp h0
    subst this
    exact BytesAt.nil w
  · refine ⟨_, cap, rfl, hle, hm, hb, fun hne => ⟨g, 0, rfl, fun j hj => ?_⟩⟩
    have hj2 : (cellsOf l)[j]? = some (.int .u8 ((l.getD j 0 : Nat) : Int)) := by
      simp [cellsOf, List.getD_eq_getElem?_getD, List.getElem?_eq_getElem hj]
    rw [← ht, List.getElem?_take_of_lt (by omega)] at hj2
    simp only [World.cell?, hh, Nat.zero_add]
    simpa using hj2

theorem ownsRow_below {w w' : World} {base : Nat} {v : Value} {n : Nat} {xs : List Value} (h : w.ownsRow base 5 1 v n xs) (hb : Below w.heap.size w w') : w'.ownsRow base 5 1 v n xs := by
  refine ⟨h.1, ?_⟩
  rcases h.2 with h0 | ⟨g, cap, cur, rfl, hg, hh, hrest⟩
  · exact .inl h0
  · exact .inr ⟨g, cap, cur, rfl, hg, by rw [hb.block g (Array.getElem?_eq_some_iff.mp hh).1]; exact hh, hrest⟩

theorem below_on {w u v : World} (h : Below w.heap.size w u) (k : Below u.heap.size u v) : Below w.heap.size w v := h.trans (k.mono h.size)

/-- A row of numbers that came in, as bytes. -/
theorem bytes_of_row {w : World} {a : Option Addr} {len cap : Nat} {zs : List Int}
    (h : (a = none ∧ len = 0 ∧ cap = 0 ∧ zs = []) ∨ ∃ x, a = some x ∧ len ≤ cap ∧ cap ≤ maxLen ∧ zs.length = cap ∧ (∀ i, i < zs.length → w.cell? (x.add i) = some (.int .u8 (zs.getD i 0))) ∧ ∀ n ∈ zs, (Lit.int .u8 n).wf = true) :
    ∃ l : List Nat, l.length = len ∧ BytesAt w (.slice a len cap) l := by
  rcases h with ⟨rfl, rfl, rfl, rfl⟩ | ⟨x, rfl, h1, h2, h3, h4, h5⟩
  · exact ⟨[], rfl, BytesAt.nil w⟩
  · have hl : ((zs.take len).map Int.toNat).length = len := by simp; omega
    refine ⟨(zs.take len).map Int.toNat, hl, some x, cap, by rw [hl], by omega, h2, fun c hc => ?_, fun hne => ?_⟩
    · obtain ⟨n, hn, rfl⟩ := List.mem_map.mp hc
      have := bounds_u8 (h5 n (List.mem_of_mem_take hn))
      omega
    · have hz : 0 < zs.length := by
        have := List.length_pos_iff.mpr hne
        omega
      obtain ⟨b, off, rfl, hc⟩ := ints_at h4 hz
      refine ⟨b, off, rfl, fun j hj => ?_⟩
      rw [hl] at hj
      rw [hc j (by omega)]
      have hjz : j < zs.length := by omega
      have hb := bounds_u8 (h5 zs[j] (List.getElem_mem hjz))
      have e1 : zs.getD j 0 = zs[j] := by simp [List.getD_eq_getElem?_getD, hjz]
      have e2 : ((zs.take len).map Int.toNat).getD j 0 = zs[j].toNat := by
        simp [List.getD_eq_getElem?_getD, List.getElem?_take_of_lt hj, hjz]
      rw [e1, e2]
      congr 2
      omega

theorem Try.info5 : (Try.prog.info? 5).map (fun i => (i.zero, i.size, i.bytes)) = some (some (.int .u8 0), 1, 1) := by kernel_rfl
end Go.Proofs.Ytgpmhflndcppeaa

namespace Go.Proofs.Ytgpmhflndcppeaa
open Go.RowKit Plain
set_option linter.unusedVariables false

theorem mask127 {c : Int} (h₀ : 0 ≤ c) (h₁ : c ≤ 255) : bits .and .u8 c 127 = c % 128 := bits_mask .u8 8 (by decide) wraps_u8 7 (by decide) c h₀ (by omega)

/-- A group of seven bits is laid above those that are there. -/
theorem or_add (X c i : Nat) (hX : X < 2 ^ (7 * i)) (hi : i ≤ 9) (hc : c < 128) (h9 : i = 9 → c ≤ 1) :
    bits .or .u64 (X : Int) (IntKind.u64.wrap ((c : Int) * 2 ^ (7 * i))) = ((X + c * 2 ^ (7 * i) : Nat) : Int) := by
  have h1 : c * 2 ^ (7 * i) < 2 ^ 64 := by
    by_cases h : i = 9
    · have := h9 h
      subst h
      have : c * 2 ^ 63 ≤ 1 * 2 ^ 63 := Nat.mul_le_mul_right _ this
      show c * 2 ^ 63 < 2 ^ 64
      omega
    · have h3 : c * 2 ^ (7 * i) ≤ 127 * 2 ^ 56 := Nat.mul_le_mul (by omega) (Nat.pow_le_pow_right (by decide) (by omega))
      omega
  have h2 : X < 2 ^ 64 := Nat.lt_of_lt_of_le hX (Nat.pow_le_pow_right (by decide) (by omega))
  have e : ((c : Int) * 2 ^ (7 * i)) = ((c * 2 ^ (7 * i) : Nat) : Int) := by simp
  rw [e, IntWalk.u64_in _ ⟨by omega, by omega⟩, u64_or_nat X _ (by omega) (by omega)]
  rw [Nat.or_comm, ← Nat.shiftLeft_eq, ← Nat.shiftLeft_add_eq_or_of_lt hX, Nat.shiftLeft_eq, Nat.add_comm]

theorem drop_n {l : List Nat} {k : Nat} (h : k < l.length) : l.drop k = l.getD k 0 :: l.drop (k + 1) := by
  rw [List.drop_eq_getElem_cons h]
  simp [List.getD_eq_getElem?_getD, List.getElem?_eq_getElem h]

theorem take_snoc {l : List Nat} {k : Nat} (h : k < l.length) : l.take (k + 1) = l.take k ++ [l.getD k 0] := by
  rw [List.take_succ_eq_append_getElem h]
  simp [List.getD_eq_getElem?_getD, List.getElem?_eq_getElem h]

theorem dn2 (w : World) (a b : Nat) : ∃ n, (w.drewN a).drewN b = w.drewN n := ⟨a + b, World.drewN_drewN _ _ _⟩

theorem or_zero {X c : Nat} (h : bits .or .u64 (X : Int) (IntKind.u64.wrap ((c : Int) % 128 * 2 ^ (7 * 0))) = ((X + c % 128 * 2 ^ (7 * 0) : Nat) : Int)) : bits .or .u64 (X : Int) ((c : Int) % 128) = ((X + c % 128 * 2 ^ (7 * 0) : Nat) : Int) := by
  rw [show ((c : Int) % 128 * 2 ^ (7 * 0)) = (c : Int) % 128 by simp, IntWalk.u64_in _ ⟨by omega, by omega⟩] at h
  exact h

theorem acc_lt (X c k : Nat) (hX : X < 2 ^ (7 * k)) : X + c % 128 * 2 ^ (7 * k) < 2 ^ (7 * (k + 1)) := by
  rw [pow_step]
  have : c % 128 * 2 ^ (7 * k) ≤ 127 * 2 ^ (7 * k) := Nat.mul_le_mul_right _ (by omega)
  omega

theorem ret3 {a a' b b' c c' : Int} (h1 : a = a') (h2 : b = b') (h3 : c = c') : Ending.returned (.tuple #[.int .u64 a, .int .i64 b, .int .i64 c]) = .returned (.tuple #[.int .u64 a', .int .i64 b', .int .i64 c']) := by rw [h1, h2, h3]

set_option maxHeartbeats 400000 in
theorem sameBytes (va vb : Value) (la lb : List Nat) (w : World) (ha : BytesAt w va la) (hb : BytesAt w vb lb) :
    Calls Try.prog 45 #[va, vb] w fun e w' => e = .returned (.bool (decide (la = lb))) ∧ ∃ n, w' = w.drewN n := by
  obtain ⟨a, cap, rfl, hlc, hcm, hby, hcells⟩ := ha
  obtain ⟨a', cap', rfl, hlc', hcm', hby', hcells'⟩ := hb
  unfold maxLen at hcm hcm'
  clear hby hby'
  by_cases hlen : la.length = lb.length
  · by_cases hnil : la = []
    · subst hnil
      have : lb = [] := List.length_eq_zero_iff.mp hlen.symm
      subst this
      clear hcells hcells' hlen
      go_enter Try.func45, Try.ntmps45
      go_wp2
      refine wp_loop_rounds 1 ?_
      rw [rounds_succ]
      go_wp2
      go_ret
      exact ⟨rfl, 0, rfl⟩
    · obtain ⟨b, off, rfl, hc⟩ := hcells hnil
      obtain ⟨b', off', rfl, hc'⟩ := hcells' (by rintro rfl; simp at hlen; exact hnil hlen)
      clear hcells hcells' hnil
      have hne : ((la.length : Int) != (lb.length : Int)) = false := by simp; omega
      have HL : Hid (la.length = lb.length) := hlen
      clear hlen
      go_enter Try.func45, Try.ntmps45
      go_wp2
      go_loopw [5] (fun i w' => ∃ k n : Nat, w' = w.drewN n ∧ k ≤ la.length ∧ i = .int .i64 k ∧ la.take k = lb.take k) (fun i _ => la.length - (intOf i).toNat)
      case atStart => exact ⟨0, 0, rfl, by omega, rfl, rfl⟩
      case round =>
        obtain ⟨k, n, rfl, hk, rfl, ht⟩ := hrel
        have HT : Hid (la.take k = lb.take k) := ht
        clear ht
        by_cases hlt : k < la.length
        · have hcell := hc k hlt
          have hcell' := hc' k (by rw [← HL.out]; exact hlt)
          have hlt' : k < lb.length := by rw [← HL.out]; exact hlt
          obtain ⟨x, hx⟩ : ∃ x, la.getD k 0 = x := ⟨_, rfl⟩
          obtain ⟨y, hy⟩ : ∃ y, lb.getD k 0 = y := ⟨_, rfl⟩
          rw [hx] at hcell
          rw [hy] at hcell'
          have HS : Hid (x = y → la.take (k + 1) = lb.take (k + 1)) := fun e => by
            rw [take_snoc hlt, take_snoc hlt', HT.out, hx, hy, e]
          have HN : Hid (x ≠ y → la ≠ lb) := fun e h => by subst h; exact e (by rw [← hx, ← hy])
          clear hx hy hc hc' HT
          by_cases hxy : x = y
          · have h2 : ((x : Int) != (y : Int)) = false := by simp; omega
            have HS2 := HS.out hxy
            have HS3 : Hid (la.take (k + 1) = lb.take (k + 1)) := HS2
            clear HS HS2 HN hxy
            go_wp2
            go_quiet (fail)
            go_wp2
            go_roundw
            case rel => exact ⟨k + 1, _, rfl, by omega, by go_num, HS3.out⟩
            case measure => simp [intOf]; omega
          · have h2 : ((x : Int) != (y : Int)) = true := by simp; omega
            have HN2 : Hid (la ≠ lb) := HN.out hxy
            clear HS HN hxy
            go_wp2
            go_quiet (fail)
            go_wp2
            go_ret
            exact ⟨by rw [decide_eq_false HN2.out]; rfl, dn2 _ _ _⟩
        · have HE : Hid (la = lb) := by
            have := HT.out
            rw [List.take_of_length_le (by omega), List.take_of_length_le (by rw [← HL.out]; omega)] at this
            exact this
          clear hc hc' HT
          go_wp2
          go_ret
          exact ⟨by rw [decide_eq_true HE.out]; rfl, _, rfl⟩
  · have hne : ((la.length : Int) != (lb.length : Int)) = true := by simp; omega
    have HN : Hid (la ≠ lb) := fun h => hlen (by rw [h])
    clear hcells hcells' hlen
    go_enter Try.func45, Try.ntmps45
    go_wp2
    go_ret
    exact ⟨by rw [decide_eq_false HN.out]; rfl, 0, rfl⟩
end Go.Proofs.Ytgpmhflndcppeaa

/-! Rows of bytes that the call itself has made, and what append does to them. -/
namespace Go.Proofs.Ytgpmhflndcppeaa
open Go.RowKit Plain
set_option linter.unusedVariables false

/-- v reads as l, and lies at the head of a row of bytes, in block r, that may be written. -/
def Own (w : World) (v : Value) (l : List Nat) (r : Option Nat) : Prop :=
  (∀ c ∈ l, c < 256) ∧ ((v = .slice none 0 0 ∧ l = [] ∧ r = none) ∨
    ∃ g cap, r = some g ∧ v = .slice (some ⟨g, 0, none⟩) l.length cap ∧ g < w.heap.size ∧ l.length ≤ cap ∧ cap ≤ maxLen ∧
      (∀ j, j < cap → w.frozen? ⟨g, j, none⟩ = false) ∧ (∀ j, j < cap → (w.cell? ⟨g, j, none⟩).isSome = true) ∧
      ∀ j, j < l.length → w.cell? ⟨g, j, none⟩ = some (.int .u8 ((l.getD j 0 : Nat) : Int)))

theorem grow_trans {a b c : World} {r r' : Option Nat} (h : a.grownBy b r) (k : b.grownBy c r') (hr : r' = r ∨ r' = none ∨ ∃ g, r' = some g ∧ a.heap.size ≤ g) : a.grownBy c r :=
  ⟨k.os.trans h.os, k.tape.trans h.tape, k.output.trans h.output, Nat.le_trans h.size k.size, fun i hi hne => by
    rw [k.block i (Nat.lt_of_lt_of_le hi h.size) ?_]
    · exact h.block i hi hne
    · rcases hr with rfl | rfl | ⟨g, rfl, hg⟩
      · exact hne
      · simp
      · simp only [ne_eq, Option.some.injEq]; omega⟩

theorem below_grow {w w' : World} (h : Below w.heap.size w w') (r : Option Nat) : w.grownBy w' r := ⟨h.os, h.tape, h.output, h.size, fun k hk _ => h.block k hk⟩

theorem grow_below {w w' : World} {r : Option Nat} {B : Nat} (h : w.grownBy w' r) (hB : B ≤ w.heap.size) (hr : ∀ g, r = some g → B ≤ g) : Below B w w' :=
  ⟨h.os, h.tape, h.output, h.size, fun k hk => h.block k (Nat.lt_of_lt_of_le hk hB) (fun e => by have := hr k e.symm; omega)⟩

theorem grow_drewN {w w' : World} {r : Option Nat} (h : w.grownBy w' r) (n : Nat) : w.grownBy (w'.drewN n) r := ⟨h.os, h.tape, h.output, h.size, h.block⟩

theorem Own.byte {w : World} {v : Value} {l : List Nat} {r : Option Nat} (h : Own w v l r) : ∀ c ∈ l, c < 256 := h.1

theorem Own.nil (w : World) : Own w (.slice none 0 0) [] none := ⟨by simp, .inl ⟨rfl, rfl, rfl⟩⟩

theorem Own.kept {w w' : World} {v : Value} {l : List Nat} {r r' : Option Nat} (h : Own w v l r) (k : w.grownBy w' r') (hne : r = none ∨ r ≠ r') : Own w' v l r := by
  refine ⟨h.1, ?_⟩
  rcases h.2 with h0 | ⟨g, cap, rfl, rfl, hg, h1, h2, h3, h4, h5⟩
  · exact .inl h0
  · have hb : w'.heap[g]? = w.heap[g]? := k.block g hg (by rcases hne with h | h <;> simp_all)
    refine .inr ⟨g, cap, rfl, rfl, Nat.lt_of_lt_of_le hg k.size, h1, h2, fun j hj => ?_, fun j hj => ?_, fun j hj => ?_⟩
    · rw [World.frozen?_of_block (w := w) (a := ⟨g, j, none⟩) hb]; exact h3 j hj
    · rw [World.cell?_of_block (w := w) (a := ⟨g, j, none⟩) hb]; exact h4 j hj
    · rw [World.cell?_of_block (w := w) (a := ⟨g, j, none⟩) hb]; exact h5 j hj

theorem Own.later {w w' : World} {v : Value} {l : List Nat} {r : Option Nat} (h : Own w v l r) (k : Below w.heap.size w w') : Own w' v l r := by
  cases r with
  | none => exact h.kept (below_grow k none) (.inl rfl)
  | some g => exact h.kept (below_grow k none) (.inr (by simp))

theorem Own.lt {w : World} {v : Value} {l : List Nat} {g : Nat} (h : Own w v l (some g)) : g < w.heap.size := by
  rcases h.2 with ⟨_, _, h⟩ | ⟨g', cap, e, _, hg, _⟩
  · simp at h
  · simp at e; omega

theorem Own.bytes {w : World} {v : Value} {l : List Nat} {r : Option Nat} (h : Own w v l r) : BytesAt w v l := by
  rcases h.2 with ⟨rfl, rfl, rfl⟩ | ⟨g, cap, rfl, rfl, hg, h1, h2, h3, h4, h5⟩
  · exact BytesAt.nil w
  · exact ⟨_, cap, rfl, h1, h2, h.1, fun _ => ⟨g, 0, rfl, fun j hj => by rw [Nat.zero_add]; exact h5 j hj⟩⟩

theorem Own.len {w : World} {v : Value} {l : List Nat} {r : Option Nat} (h : Own w v l r) : l.length ≤ maxLen := h.bytes.len

theorem Own.take {w : World} {a : Option Addr} {len cap : Nat} {l : List Nat} {r : Option Nat} (h : Own w (.slice a len cap) l r) (n : Nat) (hn : n ≤ l.length) : Own w (.slice a n cap) (l.take n) r := by
  refine ⟨fun c hc => h.1 c (List.mem_of_mem_take hc), ?_⟩
  have hl : (l.take n).length = n := by simp; omega
  rcases h.2 with ⟨e, rfl, rfl⟩ | ⟨g, cap', rfl, e, hg, h1, h2, h3, h4, h5⟩
  · simp only [Value.slice.injEq] at e
    obtain ⟨rfl, rfl, rfl⟩ := e
    have : n = 0 := by simpa using hn
    subst this
    exact .inl ⟨rfl, rfl, rfl⟩
  · simp only [Value.slice.injEq] at e
    obtain ⟨rfl, rfl, rfl⟩ := e
    refine .inr ⟨g, cap, rfl, by rw [hl], hg, by omega, h2, h3, h4, fun j hj => ?_⟩
    rw [getD_take l n j (by omega)]
    exact h5 j (by omega)

theorem Own.shape {w : World} {v : Value} {l : List Nat} {g : Nat} (h : Own w v l (some g)) : ∃ cap, v = .slice (some ⟨g, 0, none⟩) l.length cap ∧ l.length ≤ cap ∧ cap ≤ maxLen := by
  rcases h.2 with ⟨_, _, h⟩ | ⟨g', cap, e, rfl, hg, h1, h2, _⟩
  · simp at h
  · simp at e; subst e; exact ⟨cap, rfl, h1, h2⟩

/-- A row of no bytes. -/
theorem Own.empty (w : World) (t : TypeId) : Own (w.alloc (.cells #[] t)) (.slice (some ⟨w.heap.size, 0, none⟩) 0 0) [] (some w.heap.size) :=
  ⟨by simp, .inr ⟨w.heap.size, 0, rfl, rfl, by simp, by simp, by simp, by simp, by simp, by simp⟩⟩

theorem cellsOf_get (l : List Nat) (j : Nat) (h : j < l.length) : (cellsOf l)[j]? = some (.int .u8 ((l.getD j 0 : Nat) : Int)) := by
  simp [cellsOf, List.getD_eq_getElem?_getD, List.getElem?_eq_getElem h]

theorem cellsOf_len (l : List Nat) : (cellsOf l).length = l.length := by simp [cellsOf]
theorem cellsOf_append (l k : List Nat) : cellsOf l ++ cellsOf k = cellsOf (l ++ k) := by simp [cellsOf]
theorem cellsOf_one (l : List Nat) : ∀ u ∈ cellsOf l, u.oneCell' = true := by
  intro u hu
  obtain ⟨_, _, rfl⟩ := List.mem_map.mp hu
  rfl

theorem getD_left (l k : List Nat) {j : Nat} (h : j < l.length) : (l ++ k).getD j 0 = l.getD j 0 := by
  simp [List.getD_eq_getElem?_getD, List.getElem?_append_left h]
theorem getD_right (l k : List Nat) {j : Nat} (h : l.length ≤ j) : (l ++ k).getD j 0 = k.getD (j - l.length) 0 := by
  simp [List.getD_eq_getElem?_getD, List.getElem?_append_right h]

/-- A new row. -/
theorem Own.new (w : World) (C : Array Value) (l : List Nat) (cap : Nat) (t : TypeId) (hb : ∀ c ∈ l, c < 256) (hcap : C.size = cap) (hle : l.length ≤ cap) (hm : cap ≤ maxLen) (hC : ∀ j, j < l.length → C[j]? = some (.int .u8 ((l.getD j 0 : Nat) : Int))) :
    Own (w.alloc (.cells C t)) (.slice (some ⟨w.heap.size, 0, none⟩) l.length cap) l (some w.heap.size) := by
  refine ⟨hb, .inr ⟨w.heap.size, cap, rfl, rfl, by simp, hle, hm, fun j hj => ?_, fun j hj => ?_, fun j hj => ?_⟩⟩
  · exact World.frozen?_alloc_at _ _ _ _ rfl
  · rw [World.cell?_alloc_at _ _ _ _ rfl, Array.getElem?_eq_getElem (by omega)]; rfl
  · rw [World.cell?_alloc_at _ _ _ _ rfl]; exact hC j hj

/-- A slice of bytes that is appended. -/
theorem src_of {w : World} {v : Value} {l : List Nat} {t : TypeId} (ht : Try.prog.underlying t = some (.slice 5)) (h : BytesAt w v l) : Src Try.prog 1 t v l.length (cellsOf l) w := by
  obtain ⟨a, cap, rfl, h1, h2, h3, h4⟩ := h
  by_cases hnil : l = []
  · subst hnil
    cases a with
    | none => exact Src.ofNil w ht cap
    | some a => exact Src.ofSlice w ht a 0 cap [] (by simp) (by simp) (by simp)
  · obtain ⟨b, off, rfl, h5⟩ := h4 hnil
    refine Src.ofSlice w ht _ _ cap _ (by rw [cellsOf_len]; simp) (fun j u hj => ?_) (cellsOf_one l)
    have hjl : j < l.length := by
      have := (List.getElem?_eq_some_iff.mp hj).1
      rwa [cellsOf_len] at this
    rw [WideShapes.add_plain, h5 j hjl, ← cellsOf_get l j hjl, hj]

theorem src_str {w : World} {s : ByteArray} {t : TypeId} (ht : Try.prog.underlying t = some .string) : Src Try.prog 1 t (.string s) (s.data.toList.map (·.toNat)).length (cellsOf (s.data.toList.map (·.toNat))) w := by
  have e : cellsOf (s.data.toList.map (·.toNat)) = byteCells s := by simp [cellsOf, byteCells]
  have e2 : (s.data.toList.map (·.toNat)).length = s.size := by simp
  rw [e, e2]
  exact Src.ofString w ht s

theorem setCells_size (b : Nat) : ∀ (vs : List Value) (o : Nat) (w : World), (w.setCells b o vs).heap.size = w.heap.size
  | [], _, _ => rfl
  | v :: vs, o, w => by rw [World.setCells, setCells_size b vs]; simp
theorem setCells_tape (b : Nat) : ∀ (vs : List Value) (o : Nat) (w : World), (w.setCells b o vs).tape = w.tape
  | [], _, _ => rfl
  | v :: vs, o, w => by rw [World.setCells, setCells_tape b vs]; rfl
theorem grow_setCells (w : World) (g o : Nat) (vs : List Value) : w.grownBy (w.setCells g o vs) (some g) :=
  ⟨World.os_setCells w g o vs, setCells_tape g vs o w, World.output_setCells w g o vs, by rw [setCells_size]; exact Nat.le_refl _, fun k hk hne => World.heap_setCells_other w g o vs hk (fun e => hne (by rw [e]))⟩
theorem isSome_setCells (b : Nat) : ∀ (vs : List Value) (o : Nat) (w : World) (x : Addr), (w.cell? x).isSome = true → ((w.setCells b o vs).cell? x).isSome = true
  | [], _, _, _, h => h
  | v :: vs, o, w, x, h => by
    rw [World.setCells]
    apply isSome_setCells b vs
    by_cases hx : x = ⟨b, o, none⟩
    · subst hx
      obtain ⟨u, hu⟩ := Option.isSome_iff_exists.mp h
      rw [World.cell?_setCell_same _ _ _ hu]; rfl
    · rw [World.cell?_setCell_other _ _ _ _ (Ne.symm hx)]; exact h

/-- WHAT append DOES to a row of the call's own. -/
theorem run_append_row (w : World) (t tx ty : TypeId) (ht : Try.prog.underlying t = some (.slice 5)) (v x : Value) (l k : List Nat) (r : Option Nat) (hown : Own w v l r)
    (hk : ∀ c ∈ k, c < 256) (hs : Src Try.prog 1 tx x k.length (cellsOf k) w) (hlen : l.length + k.length ≤ 140737488355328) :
    ∃ v' w' r', (Builtin.append_ #[t, tx] ty #[v, x]).run Try.prog w = .ok v' w' ∧ Own w' v' (l ++ k) r' ∧ w.grownBy w' r ∧ (r' = r ∨ r' = some w.heap.size) ∧ (k ≠ [] → r' ≠ none) := by
  obtain ⟨i, hi, hz0, hz1, hz2⟩ := info_parts Try.info5
  have hby : ∀ c ∈ l ++ k, c < 256 := fun c hc => by
    rcases List.mem_append.mp hc with h | h
    · exact hown.1 c h
    · exact hk c h
  have hs' : Src Try.prog i.size tx x k.length (cellsOf k) w := by rw [hz1]; exact hs
  have hmax : l.length + k.length ≤ maxLen := by unfold maxLen; omega
  have grow : ∀ (base : Option Addr) (sCap : Nat), (Builtin.firstCells i.size l.length (.slice base l.length sCap)).run Try.prog w.drew = .ok (cellsOf l).toArray w.drew → sCap < l.length + k.length →
      ∃ v' w' r', (Builtin.append_ #[t, tx] ty #[.slice base l.length sCap, x]).run Try.prog w = .ok v' w' ∧ Own w' v' (l ++ k) r' ∧ w.grownBy w' r ∧ (r' = r ∨ r' = some w.heap.size) ∧ (k ≠ [] → r' ≠ none) := by
    intro base sCap hold hg
    have hr := run_append_grow_src (P := Try.prog) w t tx ty 5 i (.int .u8 0) ht hi hz0 base l.length sCap (cellsOf l) hold x k.length (cellsOf k) hs' hg (by omega) (by rw [hz2]; exact growslice_fits hg (by omega))
    have hge := grownCap_ge w (l.length + k.length) sCap 5
    have hcm := grownCap_le_maxLen w (l.length + k.length) sCap 5 hmax
    refine ⟨_, _, some w.heap.size, hr, ?_, ⟨rfl, rfl, rfl, by simp, fun k hk _ => heap_alloc_old w.drew _ hk⟩, .inr rfl, by simp⟩
    have hl2 : (l ++ k).length = l.length + k.length := by simp
    have := Own.new w.drew ((cellsOf l ++ cellsOf k).toArray ++ Builtin.zeroCells (Value.int .u8 0).cells (grownCap w (l.length + k.length) sCap 5 - (l.length + k.length))) (l ++ k) (grownCap w (l.length + k.length) sCap 5) 5 hby
      (by rw [cellsOf_append, Array.size_append, List.size_toArray, cellsOf_len, size_zeroCells, hl2]; show _ + _ * 1 = _; omega) (by omega) hcm
      (fun j hj => by rw [cellsOf_append, Array.getElem?_append_left (by rw [List.size_toArray, cellsOf_len]; exact hj), List.getElem?_toArray]; exact cellsOf_get _ j hj)
    rw [hl2] at this
    exact this
  rcases hown.2 with ⟨rfl, rfl, rfl⟩ | ⟨g, cap, rfl, rfl, hg, h1, h2, h3, h4, h5⟩
  · by_cases hk0 : k = []
    · subst hk0
      refine ⟨.slice none 0 0, w, none, ?_, Own.nil w, ⟨rfl, rfl, rfl, Nat.le_refl _, fun _ _ _ => rfl⟩, .inl rfl, by simp⟩
      exact run_append_nothing w t tx ty 5 i ht hi none 0 0 (Nat.le_refl _) x hs'
    · have hkl : 0 < k.length := List.length_pos_iff.mpr hk0
      exact grow none 0 (by rw [List.length_nil]; exact run_firstCells_none w.drew _ _ _ _) (by simpa using hkl)
  · by_cases hroom : l.length + k.length ≤ cap
    · have hr := run_append_room_src (P := Try.prog) w t tx ty 5 i ht hi g 0 l.length cap x k.length (cellsOf k) hs' hroom
        (fun j hj => by rw [hz1]; rw [cellsOf_len] at hj; simpa using h4 (l.length + j) (by omega))
        (fun j hj => by rw [hz1]; rw [cellsOf_len] at hj; simpa using h3 (l.length + j) (by omega))
      rw [hz1, Nat.zero_add, Nat.mul_one] at hr
      have hl2 : (l ++ k).length = l.length + k.length := by simp
      refine ⟨_, _, some g, hr, ⟨hby, .inr ⟨g, cap, rfl, by rw [hl2], ?_, by omega, h2, fun j hj => ?_, fun j hj => ?_, fun j hj => ?_⟩⟩, ?_, .inl rfl, by simp⟩
      · rw [setCells_size]; exact hg
      · rw [World.frozen?_setCells]; exact h3 j hj
      · exact isSome_setCells g _ _ w _ (h4 j hj)
      · by_cases hj' : j < l.length
        · rw [World.cell?_setCells_out g _ _ w _ (fun _ _ => .inl hj'), h5 j hj', getD_left l k hj']
        · have hj2 : j - l.length < k.length := by omega
          have := World.cell?_setCells_in g (cellsOf k) l.length w (fun m hm => h4 _ (by rw [cellsOf_len] at hm; omega)) (j - l.length) (by rw [cellsOf_len]; exact hj2)
          rw [show l.length + (j - l.length) = j by omega] at this
          rw [this, getD_right l k (by omega), ← cellsOf_get k _ hj2]
          rw [List.getElem?_eq_getElem (by rw [cellsOf_len]; exact hj2)]
      · exact grow_setCells w g _ _
    · refine grow _ cap ?_ (by omega)
      rw [hz1]
      refine run_firstCells_some w.drew 1 l.length ⟨g, 0, none⟩ _ _ (cellsOf l) (by rw [cellsOf_len, Nat.mul_one]) (fun j u hj => ?_)
      have hjl : j < l.length := by
        have := (List.getElem?_eq_some_iff.mp hj).1
        rwa [cellsOf_len] at this
      rw [WideShapes.add_plain, Nat.zero_add]
      show w.cell? ⟨g, j, none⟩ = some u
      rw [h5 j hjl, ← cellsOf_get l j hjl, hj]

theorem wpList_append_row {ops : Array Oper} {rest : List Oper} {o : Oper} {a : Act} {Q : Exit → Act → World → Prop} (w : World) (hgd : o.guard = none) (s x : Operand) (t tx : TypeId)
    (ho : o.op = .call { callee := .builtin .append, args := #[s, x], argTypes := #[t, tx] }) (ht : Try.prog.underlying t = some (.slice 5)) (v xv : Value) (l k : List Nat) (r : Option Nat)
    (hs : a.eval s = v) (hx : a.eval x = xv) (hown : Own w v l r) (hk : ∀ c ∈ k, c < 256) (hsrc : Src Try.prog 1 tx xv k.length (cellsOf k) w) (hlen : l.length + k.length ≤ 140737488355328)
    (h : ∀ v' w' r', Own w' v' (l ++ k) r' → w.grownBy w' r → (r' = r ∨ r' = some w.heap.size) → (k ≠ [] → r' ≠ none) → wpList Try.prog ops Q rest (a.put o.dst v') w') : wpList Try.prog ops Q (o :: rest) a w :=
  wpList_plain hgd fun _ hK => by
    obtain ⟨v', w', r', hr, h1, h2, h3, h4⟩ := run_append_row w t tx o.type ht v xv l k r hown hk hsrc hlen
    unfold Oper.wp execOp
    simp only [ho, resolve, invoke, builtin, Sem.run_bind, Sem.run_pure, Result.andThen_ok, List.map_toArray, List.map_cons, List.map_nil, hs, hx, hr]
    exact hK _ _ (h v' w' r' h1 h2 h3 h4)

/-- One byte in a new block of its own. -/
theorem src_one (w : World) (c : Nat) (tx t : TypeId) (ht : Try.prog.underlying tx = some (.slice 5)) : Src Try.prog 1 tx (.slice (some ⟨w.heap.size, 0, none⟩) 1 1) [c].length (cellsOf [c]) (w.alloc (.cells #[.int .u8 (c : Int)] t)) :=
  Src.ofSlice _ ht _ 1 1 _ (by simp [cellsOf]) (fun j u hj => by
    match j, hj with
    | 0, hj =>
      simp [cellsOf] at hj
      subst hj
      rw [WideShapes.add_plain, World.cell?_alloc_at _ _ _ _ rfl]; rfl) (cellsOf_one _)
end Go.Proofs.Ytgpmhflndcppeaa
