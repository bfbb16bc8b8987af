import Derived.Test.YtjefbcphefckiacTake
namespace Go.Proofs.Ytjefbcphefckiac
open Go.RowKit Plain
set_option linter.unusedVariables false

/-- A reader, as the chapter tells it: its bytes, its place, its failure. -/
structure Rs where
  l : List Nat
  p : Nat
  e : Int

def PA (w : World) (b : Nat) (s : Rs) (r : Option Nat) : Prop :=
  (s.e = 0 ∧ ∃ dv, RAt w b dv s.l s.p 0 0 r) ∨ (s.e ≠ 0 ∧ RAt w b (.slice none 0 0) [] 0 s.e s.p none)
def QA (w : World) (b : Nat) (s : Rs) (r : Option Nat) : Prop :=
  (s.e = 0 ∧ ∃ dv, RAt w b dv s.l s.p 0 0 r) ∨ (s.e ≠ 0 ∧ ∃ dv, RAt w b dv s.l s.l.length s.e s.p r)

theorem PA.lt {w : World} {b : Nat} {s : Rs} {r : Option Nat} (h : PA w b s r) : b < w.heap.size := by
  rcases h with ⟨_, dv, h⟩ | ⟨_, h⟩
  · exact h.lt
  · exact h.lt
theorem QA.lt {w : World} {b : Nat} {s : Rs} {r : Option Nat} (h : QA w b s r) : b < w.heap.size := by
  rcases h with ⟨_, dv, h⟩ | ⟨_, dv, h⟩
  · exact h.lt
  · exact h.lt

theorem PA.kept {w w' : World} {b : Nat} {s : Rs} {r x : Option Nat} (h : PA w b s r) (k : w.grownBy w' x) (hb : some b ≠ x) (hr : ∀ g, r = some g → some g ≠ x) : PA w' b s r := by
  have hbl := k.block b h.lt hb
  rcases h with ⟨h0, dv, h⟩ | ⟨h0, h⟩
  · exact .inl ⟨h0, dv, h.kept k.size hbl (fun g hg => k.block g (by subst hg; exact h.ow.lt) (hr g hg))⟩
  · exact .inr ⟨h0, h.kept k.size hbl (by simp)⟩
theorem QA.kept {w w' : World} {b : Nat} {s : Rs} {r x : Option Nat} (h : QA w b s r) (k : w.grownBy w' x) (hb : some b ≠ x) (hr : ∀ g, r = some g → some g ≠ x) : QA w' b s r := by
  have hbl := k.block b h.lt hb
  rcases h with ⟨h0, dv, h⟩ | ⟨h0, dv, h⟩
  · exact .inl ⟨h0, dv, h.kept k.size hbl (fun g hg => k.block g (by subst hg; exact h.ow.lt) (hr g hg))⟩
  · exact .inr ⟨h0, dv, h.kept k.size hbl (fun g hg => k.block g (by subst hg; exact h.ow.lt) (hr g hg))⟩
theorem PA.later {w w' : World} {b : Nat} {s : Rs} {r : Option Nat} (h : PA w b s r) (k : Below w.heap.size w w') : PA w' b s r := h.kept (below_grow k none) (by simp) (by simp)
theorem QA.later {w w' : World} {b : Nat} {s : Rs} {r : Option Nat} (h : QA w b s r) (k : Below w.heap.size w w') : QA w' b s r := h.kept (below_grow k none) (by simp) (by simp)

def Rs.fail (s : Rs) (x : Int) : Rs := if s.e ≠ 0 ∨ x = 0 then s else ⟨s.l, s.p, x⟩
def Rs.rest (s : Rs) : Nat := if s.e = 0 then s.l.length - s.p else 0
def Rs.out (s : Rs) (n : Nat) : List Nat := if s.e ≠ 0 then [] else if n ≤ s.l.length - s.p then (s.l.drop s.p).take n else []
def Rs.on (s : Rs) (n : Nat) : Rs := if s.e ≠ 0 then s else if n ≤ s.l.length - s.p then ⟨s.l, s.p + n, 0⟩ else ⟨s.l, s.p, 10⟩

theorem Rs.out_ok (s : Rs) (n : Nat) (h0 : s.e = 0) (h : n ≤ s.l.length - s.p) : s.out n = (s.l.drop s.p).take n := by unfold Rs.out; rw [if_neg (by simp [h0]), if_pos h]
theorem Rs.out_no (s : Rs) (n : Nat) (h0 : s.e = 0) (h : ¬ n ≤ s.l.length - s.p) : s.out n = [] := by unfold Rs.out; rw [if_neg (by simp [h0]), if_neg h]
theorem Rs.out_dead (s : Rs) (n : Nat) (h0 : s.e ≠ 0) : s.out n = [] := by unfold Rs.out; rw [if_pos h0]
theorem Rs.on_ok (s : Rs) (n : Nat) (h0 : s.e = 0) (h : n ≤ s.l.length - s.p) : s.on n = ⟨s.l, s.p + n, 0⟩ := by unfold Rs.on; rw [if_neg (by simp [h0]), if_pos h]
theorem Rs.on_no (s : Rs) (n : Nat) (h0 : s.e = 0) (h : ¬ n ≤ s.l.length - s.p) : s.on n = ⟨s.l, s.p, 10⟩ := by unfold Rs.on; rw [if_neg (by simp [h0]), if_neg h]
theorem Rs.on_dead (s : Rs) (n : Nat) (h0 : s.e ≠ 0) : s.on n = s := by unfold Rs.on; rw [if_pos h0]

theorem Rs.out_len (s : Rs) (n : Nat) : (s.out n).length ≤ n := by
  unfold Rs.out
  split
  · simp
  · split
    · simp; omega
    · simp

theorem drewN_grow (w : World) (n : Nat) (r : Option Nat) : w.grownBy (w.drewN n) r := below_grow (below_drewN (Below.refl _ _) n) r

theorem paRest (w : World) (b : Nat) (s : Rs) (r : Option Nat) (h : PA w b s r) :
    Calls Try.prog 17 #[.pointer (some ⟨b, 0, none⟩)] w fun x w' => x = .returned (.int .i64 (s.rest : Int)) ∧ ∃ n, w' = w.drewN n := by
  unfold Rs.rest
  rcases h with ⟨h0, dv, h⟩ | ⟨h0, h⟩
  · rw [if_pos h0]; exact pRest w b dv s.l s.p 0 0 r h
  · rw [if_neg h0]; exact pRest w b _ [] 0 s.e s.p none h
theorem qaRest (w : World) (b : Nat) (s : Rs) (r : Option Nat) (h : QA w b s r) :
    Calls Try.prog 18 #[.pointer (some ⟨b, 0, none⟩)] w fun x w' => x = .returned (.int .i64 (s.rest : Int)) ∧ ∃ n, w' = w.drewN n := by
  unfold Rs.rest
  rcases h with ⟨h0, dv, h⟩ | ⟨h0, dv, h⟩
  · rw [if_pos h0]; exact qRest w b dv s.l s.p 0 0 r h
  · rw [if_neg h0]
    have := qRest w b dv s.l s.l.length s.e s.p r h
    rw [Nat.sub_self] at this
    exact this

theorem paFail (w : World) (b : Nat) (s : Rs) (r : Option Nat) (x : Int) (h : PA w b s r) :
    Calls Try.prog 41 #[.pointer (some ⟨b, 0, none⟩), .int .i64 x] w fun y w' => y = .returned (.tuple #[]) ∧ PA w' b (s.fail x) r ∧ w.grownBy w' (some b) := by
  have hnop : ∀ w' : World, w' = w → s.e ≠ 0 ∨ x = 0 → PA w' b (s.fail x) r ∧ w.grownBy w' (some b) := by
    rintro w' rfl hx
    unfold Rs.fail
    rw [if_pos hx]
    exact ⟨h, drewN_grow w' 0 _⟩
  rcases h with ⟨h0, dv, h⟩ | ⟨h0, h⟩
  · by_cases hx : x = 0
    · exact (pFail0 w b dv s.l s.p 0 0 r x h (.inl hx)).mono fun y w' ⟨hy, hw⟩ => ⟨hy, hnop w' hw (.inr hx)⟩
    · refine (pFail1 w b dv s.l s.p 0 r x h hx).mono fun y w' ⟨hy, h1, h2⟩ => ⟨hy, ?_, h2⟩
      unfold Rs.fail
      rw [if_neg (by simp [h0, hx])]
      exact .inr ⟨hx, h1⟩
  · exact (pFail0 w b _ [] 0 s.e s.p none x h (.inr h0)).mono fun y w' ⟨hy, hw⟩ => ⟨hy, hnop w' hw (.inl h0)⟩

theorem qaFail (w : World) (b : Nat) (s : Rs) (r : Option Nat) (x : Int) (h : QA w b s r) :
    Calls Try.prog 42 #[.pointer (some ⟨b, 0, none⟩), .int .i64 x] w fun y w' => y = .returned (.tuple #[]) ∧ QA w' b (s.fail x) r ∧ w.grownBy w' (some b) := by
  have hnop : ∀ w' : World, w' = w → s.e ≠ 0 ∨ x = 0 → QA w' b (s.fail x) r ∧ w.grownBy w' (some b) := by
    rintro w' rfl hx
    unfold Rs.fail
    rw [if_pos hx]
    exact ⟨h, drewN_grow w' 0 _⟩
  rcases h with ⟨h0, dv, h⟩ | ⟨h0, dv, h⟩
  · by_cases hx : x = 0
    · exact (qFail0 w b dv s.l s.p 0 0 r x h (.inl hx)).mono fun y w' ⟨hy, hw⟩ => ⟨hy, hnop w' hw (.inr hx)⟩
    · refine (qFail1 w b dv s.l s.p 0 r x h hx).mono fun y w' ⟨hy, h1, h2⟩ => ⟨hy, ?_, h2⟩
      unfold Rs.fail
      rw [if_neg (by simp [h0, hx])]
      exact .inr ⟨hx, dv, h1⟩
  · exact (qFail0 w b dv s.l s.l.length s.e s.p r x h (.inr h0)).mono fun y w' ⟨hy, hw⟩ => ⟨hy, hnop w' hw (.inl h0)⟩

theorem paTake (w : World) (b : Nat) (s : Rs) (r : Option Nat) (n : Nat) (hn : n ≤ 9223372036854775807) (h : PA w b s r) :
    Calls Try.prog 52 #[.pointer (some ⟨b, 0, none⟩), .int .i64 n] w fun x w' => ∃ v, x = .returned v ∧ BytesAt w' v (s.out n) ∧ PA w' b (s.on n) r ∧ w.grownBy w' (some b) := by
  rcases h with ⟨h0, dv, h⟩ | ⟨h0, h⟩
  · by_cases hle : n ≤ s.l.length - s.p
    · rw [s.out_ok n h0 hle, s.on_ok n h0 hle]
      exact (takeOk w b dv s.l s.p 0 0 r n h hle).mono fun x w' ⟨v, hx, h1, h2, h3⟩ => ⟨v, hx, h1, .inl ⟨rfl, dv, h2⟩, h3⟩
    · rw [s.out_no n h0 hle, s.on_no n h0 hle]
      exact (takeNo w b dv s.l s.p 0 r n h (by omega) hn).mono fun x w' ⟨hx, h1, h2⟩ => ⟨_, hx, BytesAt.nil _, .inr ⟨by simp, h1⟩, h2⟩
  · rw [s.out_dead n h0, s.on_dead n h0]
    by_cases hz : n = 0
    · subst hz
      exact (takeOk w b _ [] 0 s.e s.p none 0 h (by simp)).mono fun x w' ⟨v, hx, h1, h2, h3⟩ => ⟨v, hx, by simpa using h1, .inr ⟨h0, h2⟩, h3⟩
    · refine (takeDead w b _ [] 0 s.e s.p none n h h0 (by simp; omega) hn).mono ?_
      rintro x w' ⟨hx, k, rfl⟩
      exact ⟨_, hx, BytesAt.nil _, .inr ⟨h0, h.drewN k⟩, drewN_grow w k _⟩

/-- The number that these bytes are, the highest first. -/
def val (v : Nat) (l : List Nat) : Nat := l.foldl (fun v c => v * 256 + c) v
theorem val_snoc (v : Nat) (l : List Nat) (c : Nat) : val v (l ++ [c]) = val v l * 256 + c := by simp [val]
theorem val_lt (l : List Nat) (hb : ∀ c ∈ l, c < 256) : val 0 l < 256 ^ l.length := by
  have gen : ∀ (l : List Nat) (v n : Nat), (∀ c ∈ l, c < 256) → v < 256 ^ n → val v l < 256 ^ (n + l.length) := by
    intro l
    induction l with
    | nil => intro v n _ h; simpa [val] using h
    | cons c r ih =>
      intro v n hb h
      have hc := hb c (by simp)
      have : v * 256 + c < 256 ^ (n + 1) := by rw [Nat.pow_succ]; omega
      have := ih (v * 256 + c) (n + 1) (fun x hx => hb x (by simp [hx])) this
      rw [List.length_cons, show n + (r.length + 1) = n + 1 + r.length by omega]
      exact this
  have := gen l 0 0 hb (by simp)
  simpa using this
theorem val_take_lt (l : List Nat) (k : Nat) (hb : ∀ c ∈ l, c < 256) (hk : k ≤ 7) : val 0 (l.take k) < 72057594037927936 := by
  have h1 := val_lt (l.take k) (fun c hc => hb c (List.mem_of_mem_take hc))
  have h2 : 256 ^ (l.take k).length ≤ 256 ^ 7 := Nat.pow_le_pow_right (by decide) (by simp; omega)
  have h3 : (256 : Nat) ^ 7 = 72057594037927936 := by decide
  omega

theorem or_byte (v c : Nat) (hv : v < 72057594037927936) (hc : c < 256) : bits .or .u64 ((v : Int) * 256) (c : Int) = ((v * 256 + c : Nat) : Int) := by
  have e : ((v : Int) * 256) = ((v * 256 : Nat) : Int) := by simp
  rw [e, u64_or_nat _ _ (by omega) (by omega)]
  have := Nat.shiftLeft_add_eq_or_of_lt (show c < 2 ^ 8 by omega) v
  rw [Nat.shiftLeft_eq] at this
  rw [show (256 : Nat) = 2 ^ 8 from rfl, this]

set_option maxHeartbeats 400000 in
set_option maxRecDepth 1000000 in
theorem paFixed (w : World) (b : Nat) (s : Rs) (r : Option Nat) (n : Nat) (hn : n ≤ 8) (h : PA w b s r) :
    Calls Try.prog 50 #[.pointer (some ⟨b, 0, none⟩), .int .i64 n] w fun x w' => x = .returned (.int .u64 (val 0 (s.out n) : Int)) ∧ PA w' b (s.on n) r ∧ w.grownBy w' (some b) := by
  have HP : Hid (PA w b s r) := h
  have hol := s.out_len n
  clear h
  go_enter Try.func50, Try.ntmps50
  go_wp2_with fail
  refine (paTake w b s r n (by omega) HP.out).mono ?_
  rintro x w1 ⟨v, rfl, hb1, hp1, hg1⟩
  generalize hL : s.out n = L at hb1 hol
  have HPO : Hid (PA w1 b (s.on n) r) := hp1
  have HG : Hid (w.grownBy w1 (some b)) := hg1
  have HL : Hid (s.out n = L) := hL
  have HBY : Hid (∀ c ∈ L, c < 256) := hb1.byte
  obtain ⟨a, cap, rfl, hlc, hcm, _, hcells⟩ := hb1
  unfold maxLen at hcm
  have HC : Hid (L ≠ [] → ∃ b off, a = some ⟨b, off, none⟩ ∧ ∀ j, j < L.length → w1.cell? ⟨b, off + j, none⟩ = some (.int .u8 ((L.getD j 0 : Nat) : Int))) := hcells
  clear hp1 hg1 hL hcells
  by_cases hnil : L = []
  · subst hnil
    go_wp2
    refine wp_loop_rounds 1 ?_
    rw [rounds_succ]
    go_wp2
    go_ret
    exact ⟨by rw [HL.out]; rfl, HPO.out, HG.out⟩
  · obtain ⟨b', off, rfl, hc⟩ := HC.out hnil
    clear HC
    go_wp2
    go_loop [5, 12] (fun t i => ∃ k : Nat, k ≤ L.length ∧ i = .int .i64 k ∧ t = .int .u64 (val 0 (L.take k) : Nat)) (fun _ i => L.length - (intOf i).toNat)
    case atStart => exact ⟨0, by omega, rfl, rfl⟩
    case round =>
      obtain ⟨k, hk, rfl, rfl⟩ := hrel
      by_cases hlt : k < L.length
      · have hcell := hc k hlt
        obtain ⟨c, hcv⟩ : ∃ c, L.getD k 0 = c := ⟨_, rfl⟩
        have hc256 : c < 256 := HBY.out c (by rw [← hcv, List.getD_eq_getElem?_getD, List.getElem?_eq_getElem hlt]; simp)
        rw [hcv] at hcell
        have hvl := val_take_lt L k HBY.out (by omega)
        have HS : Hid (val 0 (L.take (k + 1)) = val 0 (L.take k) * 256 + c) := by unfold Hid; rw [take_snoc hlt, val_snoc, hcv]
        generalize val 0 (L.take k) = V at hvl HS
        have hor := or_byte V c hvl hc256
        have HOR : Hid (bits .or .u64 ((V : Int) * 256) (c : Int) = ((V * 256 + c : Nat) : Int)) := hor
        clear hor hcv hc
        go_wp2
        go_round
        case rel => exact ⟨k + 1, by omega, by go_num, by rw [HOR.out, HS.out]⟩
        case measure => simp [intOf]; omega
      · have HE : Hid (val 0 (L.take k) = val 0 L) := by unfold Hid; rw [List.take_of_length_le (by omega)]
        clear hc
        go_wp2
        go_ret
        exact ⟨ret_k (by rw [HL.out, HE.out]), HPO.out, HG.out⟩
end Go.Proofs.Ytjefbcphefckiac
