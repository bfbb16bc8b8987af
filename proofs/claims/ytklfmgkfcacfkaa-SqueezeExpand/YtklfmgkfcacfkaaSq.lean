import Derived.Test.YtklfmgkfcacfkaaNum
/-! Matches of a text with itself, by plain numbers. -/
namespace Go.Proofs.Ytklfmgkfcacfkaa.Plain
set_option linter.unusedVariables false

/-- At the place i + k the byte is the one d places ahead. -/
def Eqv (l : List Nat) (i d k : Nat) : Prop := l.getD (i + k) 0 = l.getD (i + k - d) 0

/-- n is the length of the match at i, of the distance d, of at most m bytes. -/
def IsLen (l : List Nat) (i d m n : Nat) : Prop := n ≤ m ∧ (∀ k, k < n → Eqv l i d k) ∧ (n = m ∨ ¬ Eqv l i d n)

def most (l : List Nat) (i : Nat) : Nat := min 258 (l.length - i)

theorem IsLen.unique {l : List Nat} {i d m n n' : Nat} (h : IsLen l i d m n) (h' : IsLen l i d m n') : n = n' := by
  obtain ⟨a, b, c⟩ := h
  obtain ⟨a', b', c'⟩ := h'
  rcases Nat.lt_trichotomy n n' with x | x | x
  · have := b' n x
    rcases c with c | c
    · omega
    · exact absurd this c
  · exact x
  · have := b n' x
    rcases c' with c | c
    · omega
    · exact absurd this c

theorem IsLen.ge {l : List Nat} {i d m n j : Nat} (h : IsLen l i d m n) (hj : j ≤ m) (hk : ∀ k, k < j → Eqv l i d k) : j ≤ n := by
  obtain ⟨a, b, c⟩ := h
  by_cases x : n < j
  · rcases c with c | c
    · omega
    · exact absurd (hk n x) c
  · omega

theorem IsLen.le {l : List Nat} {i d m n j : Nat} (h : IsLen l i d m n) (hj : ¬ Eqv l i d j) : n ≤ j := by
  obtain ⟨a, b, c⟩ := h
  by_cases x : j < n
  · exact absurd (b j x) hj
  · omega

/-- (d, n) is what stands at the place i: the longest match, of several the nearest; or none is long enough. -/
def Best (l : List Nat) (i d n : Nat) : Prop :=
  (n = 0 ∧ d = 0 ∧ ∀ d' n', 1 ≤ d' → d' ≤ i → d' ≤ 2048 → IsLen l i d' (most l i) n' → n' < 5) ∨
  (5 ≤ n ∧ n ≤ 258 ∧ i + n ≤ l.length ∧ 1 ≤ d ∧ d ≤ i ∧ d ≤ 2048 ∧ IsLen l i d (most l i) n ∧ ∀ d' n', 1 ≤ d' → d' ≤ i → d' ≤ 2048 → IsLen l i d' (most l i) n' → n' < n ∨ (n' = n ∧ d ≤ d'))

/-- A number made of the five bytes at a place. -/
def hv (l : List Nat) : Nat := l.foldl (fun v c => v * 256 + c) 0
def hsh (l : List Nat) : Nat := hv (l.take 5) * 11400714819323198485 % 18446744073709551616 / 9007199254740992
def hat (l : List Nat) (i : Nat) : Nat := hsh (l.drop i)
theorem hsh_lt (l : List Nat) : hsh l < 2048 := by unfold hsh; omega
theorem hat_lt (l : List Nat) (i : Nat) : hat l i < 2048 := hsh_lt _

theorem hv_snoc (l : List Nat) (c : Nat) : hv (l ++ [c]) = hv l * 256 + c := by simp [hv]
theorem hv_lt_from : ∀ (l : List Nat) (a k : Nat), a < 256 ^ k → (∀ c ∈ l, c < 256) → l.foldl (fun v c => v * 256 + c) a < 256 ^ (k + l.length)
  | [], a, k, h, _ => by simpa using h
  | c :: l, a, k, h, hb => by
    have hc := hb c (by simp)
    have := hv_lt_from l (a * 256 + c) (k + 1) (by rw [Nat.pow_succ]; omega) fun x hx => hb x (List.mem_cons_of_mem _ hx)
    rw [List.foldl_cons, List.length_cons, show k + (l.length + 1) = k + 1 + l.length by omega]
    exact this
theorem hv_lt (l : List Nat) (h : ∀ c ∈ l, c < 256) : hv l < 256 ^ l.length := by
  have := hv_lt_from l 0 0 (by decide) h
  rwa [Nat.zero_add] at this

theorem take5_eq {l : List Nat} {i q : Nat} (hi : i + 5 ≤ l.length) (hq : q ≤ i) (h : ∀ k, k < 5 → Eqv l i (i - q) k) : (l.drop i).take 5 = (l.drop q).take 5 := by
  apply List.ext_getElem?
  intro n
  by_cases hn : n < 5
  · rw [List.getElem?_take_of_lt hn, List.getElem?_take_of_lt hn, List.getElem?_drop, List.getElem?_drop]
    have := h n hn
    unfold Eqv at this
    rw [show i + n - (i - q) = q + n by omega, List.getD_eq_getElem?_getD, List.getD_eq_getElem?_getD, List.getElem?_eq_getElem (by omega), List.getElem?_eq_getElem (by omega)] at this
    rw [List.getElem?_eq_getElem (by omega), List.getElem?_eq_getElem (by omega)]
    simpa using this
  · rw [List.getElem?_eq_none (by rw [List.length_take]; omega), List.getElem?_eq_none (by rw [List.length_take]; omega)]

/-- Places with another number have no match. -/
theorem short_of_hat {l : List Nat} {i q n : Nat} (hi : i + 5 ≤ l.length) (hq : q < i) (h : hat l q ≠ hat l i) (hn : IsLen l i (i - q) (most l i) n) : n < 5 := by
  by_cases x : n < 5
  · exact x
  · exfalso
    apply h
    unfold hat hsh
    rw [take5_eq hi (Nat.le_of_lt hq) fun k hk => hn.2.1 k (by omega)]

/-- p tells the last place ahead of u whose number is h (0: none). -/
def Prev (l : List Nat) (u h p : Nat) : Prop :=
  (p = 0 ∧ ∀ q, q < u → q + 5 ≤ l.length → hat l q ≠ h) ∨
  (∃ q, p = q + 1 ∧ q < u ∧ q + 5 ≤ l.length ∧ hat l q = h ∧ ∀ q', q < q' → q' < u → q' + 5 ≤ l.length → hat l q' ≠ h)

theorem Prev.le {l : List Nat} {u h p : Nat} (x : Prev l u h p) : p ≤ u := by
  rcases x with ⟨rfl, _⟩ | ⟨q, rfl, h1, _⟩ <;> omega

/-- The table stands for the places ahead of i. -/
def Tab (l : List Nat) (i : Nat) (last ahead : Nat → Nat) : Prop :=
  (∀ h, h < 2048 → Prev l i h (last h)) ∧ (∀ q, q < i → q + 5 ≤ l.length → Prev l q (hat l q) (ahead q))

theorem Tab.zero (l : List Nat) (ahead : Nat → Nat) : Tab l 0 (fun _ => 0) ahead :=
  ⟨fun _ _ => .inl ⟨rfl, fun q hq => by omega⟩, fun q hq => by omega⟩

def upd (f : Nat → Nat) (a b : Nat) : Nat → Nat := fun x => if x = a then b else f x
theorem upd_same (f : Nat → Nat) (a b : Nat) : upd f a b a = b := by simp [upd]
theorem upd_other (f : Nat → Nat) (a b : Nat) {x : Nat} (h : x ≠ a) : upd f a b x = f x := by simp [upd, h]

theorem Tab.skip {l : List Nat} {i : Nat} {last ahead : Nat → Nat} (t : Tab l i last ahead) (hi : l.length < i + 5) : Tab l (i + 1) last ahead := by
  refine ⟨fun h hh => ?_, fun q hq hq5 => t.2 q (by omega) hq5⟩
  rcases t.1 h hh with ⟨h0, h1⟩ | ⟨q, h0, h1, h2, h3, h4⟩
  · exact .inl ⟨h0, fun q hq hq5 => h1 q (by omega) hq5⟩
  · exact .inr ⟨q, h0, by omega, h2, h3, fun q' a b c => h4 q' a (by omega) c⟩

theorem Tab.add {l : List Nat} {i : Nat} {last ahead : Nat → Nat} (t : Tab l i last ahead) (hi : i + 5 ≤ l.length) : Tab l (i + 1) (upd last (hat l i) (i + 1)) (upd ahead i (last (hat l i))) := by
  refine ⟨fun h hh => ?_, fun q hq hq5 => ?_⟩
  · by_cases x : h = hat l i
    · subst x
      rw [upd_same]
      exact .inr ⟨i, rfl, by omega, hi, rfl, fun q' a b c => by omega⟩
    · rw [upd_other _ _ _ x]
      rcases t.1 h hh with ⟨h0, h1⟩ | ⟨q, h0, h1, h2, h3, h4⟩
      · refine .inl ⟨h0, fun q hq hq5 => ?_⟩
        by_cases y : q = i
        · subst y; exact Ne.symm x
        · exact h1 q (by omega) hq5
      · refine .inr ⟨q, h0, by omega, h2, h3, fun q' a b c => ?_⟩
        by_cases y : q' = i
        · subst y; exact Ne.symm x
        · exact h4 q' a (by omega) c
  · by_cases x : q = i
    · subst x
      rw [upd_same]
      exact t.1 _ (hat_lt l q)
    · rw [upd_other _ _ _ x]
      exact t.2 q (by omega) hq5

/-- What the search knows, the places from u on having been looked at: (d, n) is the best of them. -/
def Look (l : List Nat) (i u d n : Nat) : Prop :=
  (n = 0 ∧ d = 0 ∧ ∀ q n', u ≤ q → q < i → i - q ≤ 2048 → IsLen l i (i - q) (most l i) n' → n' < 5) ∨
  (5 ≤ n ∧ n ≤ most l i ∧ 1 ≤ d ∧ d ≤ i ∧ d ≤ 2048 ∧ u + d ≤ i ∧ IsLen l i d (most l i) n ∧ ∀ q n', u ≤ q → q < i → i - q ≤ 2048 → IsLen l i (i - q) (most l i) n' → n' < n ∨ (n' = n ∧ d ≤ i - q))

theorem Look.start (l : List Nat) (i : Nat) : Look l i i 0 0 := .inl ⟨rfl, rfl, fun q n' a b => by omega⟩

/-- Places between that have another number, or are too far, change nothing. -/
theorem Look.down {l : List Nat} {i u v d n : Nat} (x : Look l i u d n) (hv : v ≤ u) (h : ∀ q n', v ≤ q → q < u → q < i → i - q ≤ 2048 → IsLen l i (i - q) (most l i) n' → n' < 5 ∨ n' ≤ n) : Look l i v d n := by
  rcases x with ⟨rfl, rfl, h1⟩ | ⟨h0, h1, h2, h3, h4, h5, h6, h7⟩
  · refine .inl ⟨rfl, rfl, fun q n' a b c e => ?_⟩
    by_cases y : u ≤ q
    · exact h1 q n' y b c e
    · rcases h q n' a (by omega) b c e with z | z <;> omega
  · refine .inr ⟨h0, h1, h2, h3, h4, by omega, h6, fun q n' a b c e => ?_⟩
    by_cases y : u ≤ q
    · exact h7 q n' y b c e
    · rcases h q n' a (by omega) b c e with z | z <;> omega

theorem Look.done {l : List Nat} {i d n : Nat} (hi : i < l.length) (x : Look l i 0 d n) : Best l i d n := by
  rcases x with ⟨h1, h2, h3⟩ | ⟨h0, h1, h2, h3, h4, h5, h6, h7⟩
  · refine .inl ⟨h1, h2, fun d' n' a b c e => ?_⟩
    exact h3 (i - d') n' (by omega) (by omega) (by omega) (by rw [show i - (i - d') = d' by omega]; exact e)
  · have hm : most l i ≤ 258 ∧ most l i ≤ l.length - i := by unfold most; omega
    refine .inr ⟨h0, by omega, by omega, h2, h3, h4, h6, fun d' n' a b c e => ?_⟩
    have := h7 (i - d') n' (by omega) (by omega) (by omega) (by rw [show i - (i - d') = d' by omega]; exact e)
    rwa [show i - (i - d') = d' by omega] at this

/-- A place that is longer than all that were looked at. -/
theorem Look.more {l : List Nat} {i u d n q n' : Nat} (x : Look l i u d n) (hu : u ≤ i) (hq : q < u) (hf : i - q ≤ 2048) (hb : ∀ q' n', q < q' → q' < u → q' < i → i - q' ≤ 2048 → IsLen l i (i - q') (most l i) n' → n' < 5)
    (h5 : 5 ≤ n') (hn : n < n') (hl : IsLen l i (i - q) (most l i) n') : Look l i q (i - q) n' := by
  have := x.down (v := q + 1) (by omega) (fun q' m a b c e f => .inl (hb q' m (by omega) b c e f))
  refine .inr ⟨h5, hl.1, by omega, by omega, hf, by omega, hl, fun q' m a b c e => ?_⟩
  by_cases y : q' = q
  · subst y
    exact .inr ⟨e.unique hl, Nat.le_refl _⟩
  · rcases this with ⟨g1, g2, g3⟩ | ⟨g0, g1, g2, g3, g4, g5, g6, g7⟩
    · have := g3 q' m (by omega) b c e
      omega
    · have := g7 q' m (by omega) b c e
      omega

theorem Look.whole {l : List Nat} {i u d : Nat} (x : Look l i u d (most l i)) (h5 : 5 ≤ most l i) : Look l i 0 d (most l i) := by
  rcases x with ⟨h1, h2, h3⟩ | ⟨h0, h1, h2, h3, h4, h5, h6, h7⟩
  · omega
  · refine .inr ⟨h0, h1, h2, h3, h4, by omega, h6, fun q n' a b c e => ?_⟩
    by_cases y : u ≤ q
    · exact h7 q n' y b c e
    · have := e.1
      omega

/-- The places between two links of a chain have another number. -/
theorem Prev.between {l : List Nat} {i u q : Nat} (hi : i + 5 ≤ l.length) (hu : u ≤ i) (x : Prev l u (hat l i) (q + 1)) : ∀ q' n', q < q' → q' < u → q' < i → i - q' ≤ 2048 → IsLen l i (i - q') (most l i) n' → n' < 5 := by
  intro q' n' a b c _ e
  rcases x with ⟨h, _⟩ | ⟨q2, h0, h1, h2, h3, h4⟩
  · omega
  · obtain rfl : q = q2 := by omega
    exact short_of_hat hi c (h4 q' a b (by omega)) e

theorem Prev.none {l : List Nat} {i u : Nat} (hi : i + 5 ≤ l.length) (hu : u ≤ i) (x : Prev l u (hat l i) 0) : ∀ q' n', q' < u → q' < i → IsLen l i (i - q') (most l i) n' → n' < 5 := by
  intro q' n' b c e
  rcases x with ⟨_, h⟩ | ⟨q2, h0, h1, h2, h3, h4⟩
  · exact short_of_hat hi c (h q' b (by omega)) e
  · omega
theorem getD_take' (l : List Nat) (n j : Nat) (h : j < n) : (l.take n).getD j 0 = l.getD j 0 := by
  simp [List.getD_eq_getElem?_getD, h]

theorem isLen_take {l : List Nat} {i d m n : Nat} (hd : d ≤ i) (h : IsLen (l.take (i + m)) i d m n) : IsLen l i d m n := by
  obtain ⟨h1, h2, h3⟩ := h
  refine ⟨h1, fun k hk => ?_, ?_⟩
  · have := h2 k hk
    unfold Eqv at this ⊢
    rwa [getD_take' _ _ _ (by omega), getD_take' _ _ _ (by omega)] at this
  · by_cases x : n = m
    · exact .inl x
    · rcases h3 with h3 | h3
      · exact .inl h3
      · right
        unfold Eqv at h3 ⊢
        rwa [getD_take' _ _ _ (by omega), getD_take' _ _ _ (by omega)] at h3
end Go.Proofs.Ytklfmgkfcacfkaa.Plain
