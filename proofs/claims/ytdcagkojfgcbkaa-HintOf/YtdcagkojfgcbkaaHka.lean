import Derived.Test.YtdcagkojfgcbkaaHe
import Derived.Test.YtdcagkojfgcbkaaSf0
import Derived.Maps.Own
import Derived.Maps.OwnOps
import Derived.Maps.Views
import Derived.Maps.RangeWalk
import Derived.Deep.Quiet
/-! Where the last record of each key stands: what the program's map tells, and what a range over it gives. -/
namespace Go.Proofs.Ytdcagkojfgcbkaa
open Go.RowKit Plain Go.WideMaps Go.Maps
set_option linter.unusedVariables false

abbrev pk (st : List Pl) (i : Nat) : ByteArray := (st.getD i Pl.zero).key
/-- Place j is the last one of its key among the first n. -/
def LastP (st : List Pl) (n j : Nat) : Prop := j < n ∧ ∀ m, j < m → m < n → pk st m ≠ pk st j
theorem klaw : Keyed Try.prog 9 := string_keyed Try.underlying9
theorem kzero (w : World) : (zeroValue 3).run Try.prog w = .ok (.int .i64 0) w := by kernel_rfl
def klit (s : ByteArray) : Lit := .string s.data.toList
theorem klit_inj {s t : ByteArray} (h : klit s = klit t) : s = t := by
  unfold klit at h
  injection h with h
  exact WideShapes.bytes_inj h
theorem klit_key (s : ByteArray) : WideAt.IsKeyLit (klit s) := by
  unfold klit
  first | trivial | constructor | (unfold WideAt.IsKeyLit; trivial)
theorem LastP.uniq {st : List Pl} {n i j : Nat} (h : LastP st n i) (k : LastP st n j) (e : pk st i = pk st j) : i = j := by
  rcases Nat.lt_trichotomy i j with h1 | h1 | h1
  · exact absurd e.symm (h.2 j h1 k.1)
  · exact h1
  · exact absurd e (k.2 i h1 h.1)
theorem LastP.more {st : List Pl} {n j : Nat} (h : LastP st (n + 1) j) (hj : j ≠ n) : LastP st n j ∧ pk st n ≠ pk st j := by
  have := h.1
  exact ⟨⟨by omega, fun m a b => h.2 m a (by omega)⟩, h.2 n (by omega) (by omega)⟩
theorem LastP.self (st : List Pl) (n : Nat) : LastP st (n + 1) n := ⟨by omega, fun m a b => by omega⟩
theorem LastP.up {st : List Pl} {n j : Nat} (h : LastP st n j) (hk : pk st n ≠ pk st j) : LastP st (n + 1) j := by
  have := h.1
  refine ⟨by omega, fun m a b => ?_⟩
  by_cases e : m = n
  · subst e; exact hk
  · exact h.2 m a (by omega)
/-- Some last place has this key. -/
theorem lastP_of (st : List Pl) (n : Nat) : ∀ (f i : Nat), i < n → n - i ≤ f → ∃ j, i ≤ j ∧ pk st j = pk st i ∧ LastP st n j := by
  intro f
  induction f with
  | zero => intro i h1 h2; omega
  | succ f ih =>
    intro i h1 h2
    by_cases h : ∀ m, i < m → m < n → pk st m ≠ pk st i
    · exact ⟨i, Nat.le_refl _, rfl, h1, h⟩
    · obtain ⟨m, hm⟩ := Classical.not_forall.mp h
      simp only [Classical.not_imp, ne_eq, Classical.not_not] at hm
      obtain ⟨a1, a2, a3⟩ := hm
      obtain ⟨j, b1, b2, b3⟩ := ih m a2 (by omega)
      exact ⟨j, by omega, by rw [b2, a3], b3⟩

/-- The map tells the last place of each of the first n records' keys, and nothing else. -/
structure LD {H : Type} (st : List Pl) (n : Nat) (D : DataW H) : Prop where
  map : Maps.IsMap D
  old : ∀ j, LastP st n j → Maps.has D (klit (pk st j)) = true ∧ ∀ zd, D.atKey (klit (pk st j)) zd = .lit (.int .i64 (j : Int))
  only : ∀ kl, Maps.has D kl = true → ∃ j, LastP st n j ∧ kl = klit (pk st j)
theorem LD.zero {H : Type} (st : List Pl) : LD (H := H) st 0 (.map []) := ⟨⟨_, rfl⟩, fun j hj => by have := hj.1; omega, fun kl h => by simp [Maps.has] at h⟩
theorem LD.step {H : Type} {st : List Pl} {n : Nat} {D : DataW H} (h : LD st n D) : LD st (n + 1) (D.put (klit (pk st n)) (.lit (.int .i64 (n : Int)))) := by
  refine ⟨h.map.put _ _, fun j hj => ?_, fun kl hk => ?_⟩
  · by_cases e : j = n
    · subst e
      exact ⟨Maps.has_put_same h.map (klit_key _) _, fun zd => Maps.atKey_put_same h.map (klit_key _) _ _⟩
    · obtain ⟨h1, h2⟩ := hj.more e
      have hne : klit (pk st j) ≠ klit (pk st n) := fun e2 => h2 (klit_inj e2).symm
      obtain ⟨o1, o2⟩ := h.old j h1
      exact ⟨by rw [Maps.has_put_other hne]; exact o1, fun zd => by rw [Maps.atKey_put_other hne]; exact o2 zd⟩
  · by_cases e : kl = klit (pk st n)
    · exact ⟨n, LastP.self st n, e⟩
    · rw [Maps.has_put_other e] at hk
      obtain ⟨j, h1, h2⟩ := h.only kl hk
      exact ⟨j, h1.up (fun e2 => e (by rw [h2, e2])), h2⟩

/-- What has been gone through of the map. -/
structure RgI (st : List Pl) (left : Lit → Bool) (ps : List Int) : Prop where
  sub : ∀ kl, left kl = true → ∃ j, LastP st st.length j ∧ kl = klit (pk st j)
  mem : ∀ c ∈ ps, ∃ j : Nat, c = j ∧ LastP st st.length j ∧ left (klit (pk st j)) = false
  all : ∀ j : Nat, LastP st st.length j → left (klit (pk st j)) = false → (j : Int) ∈ ps
  nd : ps.Nodup
theorem RgI.start {H : Type} {st : List Pl} {D : DataW H} (h : LD st st.length D) : RgI st (Maps.has D) [] :=
  ⟨fun kl hk => h.only kl hk, fun c hc => by simp at hc, fun j hj hl => (by rw [(h.old j hj).1] at hl; cases hl), List.nodup_nil⟩
theorem RgI.next {H : Type} {st : List Pl} {D : DataW H} {left : Lit → Bool} {ps : List Int} {kl : Lit} {c : Int} (h : RgI st left ps) (hD : LD st st.length D) (hl : left kl = true) (hc : ∀ zd, D.atKey kl zd = .lit (.int .i64 c)) :
    0 ≤ c ∧ c < st.length ∧ RgI st (fun z => left z && !z.sameKey kl) (ps ++ [c]) := by
  obtain ⟨j, hj, rfl⟩ := h.sub kl hl
  have e : c = (j : Int) := by
    have := (hD.old j hj).2 (.lit (.int .i64 0))
    rw [hc] at this
    injection this with this
    injection this with this
  subst e
  have hlt := hj.1
  refine ⟨by omega, by omega, fun z hz => ?_, fun c hc => ?_, fun i hi hz => ?_, ?_⟩
  · simp only [Bool.and_eq_true] at hz
    exact h.sub z hz.1
  · rcases List.mem_append.mp hc with hc | hc
    · obtain ⟨i, e, h1, h2⟩ := h.mem c hc
      exact ⟨i, e, h1, by simp [h2]⟩
    · obtain rfl := List.mem_singleton.mp hc
      exact ⟨j, rfl, hj, by simp [WideAt.sameKey_self (klit_key _)]⟩
  · by_cases hle : left (klit (pk st i)) = false
    · exact List.mem_append_left _ (h.all i hi hle)
    · have hle2 : left (klit (pk st i)) = true := by simpa using hle
      rw [hle2] at hz
      have hs : (klit (pk st i)).sameKey (klit (pk st j)) = true := by simpa using hz
      have := hi.uniq hj (klit_inj (WideAt.sameKey_eq hs))
      subst this
      exact List.mem_append_right _ (List.mem_singleton.mpr rfl)
  · rw [List.nodup_append]
    refine ⟨h.nd, by simp, fun a ha b hb e => ?_⟩
    obtain rfl := List.mem_singleton.mp hb
    subst e
    obtain ⟨i, e, h1, h2⟩ := h.mem _ ha
    have : i = j := by omega
    subst this
    rw [hl] at h2
    cases h2
/-- The last places, rising. -/
structure PlacesOk (st : List Pl) (qs : List Nat) : Prop where
  mem : ∀ j ∈ qs, LastP st st.length j
  all : ∀ j, LastP st st.length j → j ∈ qs
  up : qs.Pairwise (· < ·)
theorem RgI.done {st : List Pl} {left : Lit → Bool} {ps : List Int} (h : RgI st left ps) (hl : ∀ kl, left kl = false) : ∃ qs : List Nat, ps.mergeSort (fun a b => decide (a ≤ b)) = qs.map Int.ofNat ∧ PlacesOk st qs := by
  have hp := List.mergeSort_perm ps (fun a b => decide (a ≤ b))
  have hs := List.pairwise_mergeSort (le := fun a b : Int => decide (a ≤ b)) (fun a b c h1 h2 => by simp at *; omega) (fun a b => by simp; omega) ps
  have hnd : (ps.mergeSort (fun a b => decide (a ≤ b))).Nodup := hp.nodup_iff.mpr h.nd
  generalize ps.mergeSort (fun a b => decide (a ≤ b)) = qs at *
  have hq : qs = (qs.map Int.toNat).map Int.ofNat := by
    have e : qs.map (Int.ofNat ∘ Int.toNat) = qs.map id := List.map_congr_left (fun c hc => by
      obtain ⟨j, e, _⟩ := h.mem c (hp.mem_iff.mp hc)
      show ((c.toNat : Nat) : Int) = c
      omega)
    rw [List.map_map, e, List.map_id]
  refine ⟨qs.map Int.toNat, hq, fun j hj => ?_, fun j hj => ?_, ?_⟩
  · obtain ⟨c, hc, rfl⟩ := List.mem_map.mp hj
    obtain ⟨j, e, h1, _⟩ := h.mem c (hp.mem_iff.mp hc)
    have : c.toNat = j := by omega
    rw [this]; exact h1
  · have := hp.mem_iff.mpr (h.all j hj (hl _))
    exact List.mem_map.mpr ⟨_, this, by simp⟩
  · rw [List.pairwise_map]
    refine List.Pairwise.imp_of_mem ?_ (hs.and hnd)
    intro a b ha hb hab
    obtain ⟨i, e1, _⟩ := h.mem a (hp.mem_iff.mp ha)
    obtain ⟨j, e2, _⟩ := h.mem b (hp.mem_iff.mp hb)
    obtain ⟨h1, h2⟩ := hab
    simp at h1
    omega
end Go.Proofs.Ytdcagkojfgcbkaa
