import Derived.Test.YtjefbcphefckiacRp2
namespace Go.Proofs.Ytjefbcphefckiac
open Go.RowKit Plain
set_option linter.unusedVariables false

theorem rd_n_le : ∀ (l : List Nat) (i acc : Nat), (rdGo l i acc).2.1 ≤ i + l.length
  | [], _, _ => by simp [rdGo]
  | c :: cs, i, acc => by
    simp only [rdGo]
    split
    · simp
    · split
      · simp
      · have := rd_n_le cs (i + 1) (acc + c % 128 * 2 ^ (7 * i))
        simp; omega
theorem rd_e (l : List Nat) : (rd l).2.2 = 0 ∨ rd l = (0, 0, 10) ∨ rd l = (0, 0, 11) := by
  by_cases h : (rd l).2.2 = 0
  · exact .inl h
  · exact .inr (rd_refused l 0 0 h)

theorem PA.len {w : World} {b : Nat} {s : Rs} {r : Option Nat} (h : PA w b s r) (h0 : s.e = 0) : s.p ≤ s.l.length ∧ s.l.length ≤ 140737488351232 ∧ ∀ c ∈ s.l, c < 256 := by
  rcases h with ⟨_, dv, h⟩ | ⟨h1, _⟩
  · exact ⟨h.pl, h.ll, h.ow.1⟩
  · exact absurd h0 h1

theorem PA.num_le {w : World} {b : Nat} {s : Rs} {r : Option Nat} (h : PA w b s r) : s.num.2.1 ≤ s.rest ∧ s.num.2.1 ≤ 140737488351232 ∧ s.num.1 < 18446744073709551616 ∧ (s.num.2.2 ≠ 0 → s.num.1 = 0 ∧ s.num.2.1 = 0) ∧ (s.e ≠ 0 → s.num = (0, 0, 10)) := by
  unfold Rs.num Rs.rest
  by_cases h0 : s.e = 0
  · obtain ⟨h1, h2, h3⟩ := h.len h0
    rw [if_neg (by simp [h0]), if_pos h0]
    have hn : (rd (s.l.drop s.p)).2.1 ≤ 0 + (s.l.drop s.p).length := rd_n_le _ 0 0
    simp at hn
    refine ⟨hn, by omega, ?_, ?_, fun h => absurd h0 h⟩
    · rcases rd_e (s.l.drop s.p) with h | h | h
      · obtain ⟨u, _, e1, e2, _⟩ := rd_taken (s.l.drop s.p) 0 0 (by decide) (fun c hc => h3 c (List.mem_of_mem_drop hc)) h
        have : (rd (s.l.drop s.p)).1 = u := e1.trans (by simp)
        rw [this]; simpa using e2
      · rw [h]; decide
      · rw [h]; decide
    · intro hne
      rcases rd_e (s.l.drop s.p) with h | h | h
      · exact absurd h hne
      · rw [h]; exact ⟨rfl, rfl⟩
      · rw [h]; exact ⟨rfl, rfl⟩
  · rw [if_pos h0, if_neg h0]
    simp

def Rs.uvOn (s : Rs) : Rs := (s.fail s.num.2.2).on s.num.2.1

theorem paUvarint (w : World) (b : Nat) (s : Rs) (r : Option Nat) (h : PA w b s r) :
    Calls Try.prog 33 #[.pointer (some ⟨b, 0, none⟩)] w fun x w' => x = .returned (.int .u64 s.num.1) ∧ PA w' b s.uvOn r ∧ w.grownBy w' (some b) := by
  have HP : Hid (PA w b s r) := h
  have hn := h.num_le.2.1
  clear h
  go_enter Try.func33, Try.ntmps33
  go_wp2_with fail
  refine (paPeek w b s r HP.out).mono ?_
  rintro x w1 ⟨rfl, hp1, hg1⟩
  have H1 : Hid (PA w1 b (s.fail s.num.2.2) r) := hp1
  have HG1 : Hid (w.grownBy w1 (some b)) := hg1
  clear hp1 hg1
  go_wp2_with fail
  refine (paTake w1 b (s.fail s.num.2.2) r s.num.2.1 (by omega) H1.out).mono ?_
  rintro x w2 ⟨v, rfl, hb2, hp2, hg2⟩
  have H2 : Hid (PA w2 b s.uvOn r) := hp2
  have HG2 : Hid (w.grownBy w2 (some b)) := grow_trans HG1.out hg2 (.inl rfl)
  clear hb2 hp2 hg2
  go_wp2
  go_ret
  exact ⟨rfl, H2.out, HG2.out⟩

theorem paVarint (w : World) (b : Nat) (s : Rs) (r : Option Nat) (h : PA w b s r) :
    Calls Try.prog 34 #[.pointer (some ⟨b, 0, none⟩)] w fun x w' => x = .returned (.int .i64 (unzz s.num.1)) ∧ PA w' b s.uvOn r ∧ w.grownBy w' (some b) := by
  have HP : Hid (PA w b s r) := h
  have hn := h.num_le.2.2.1
  clear h
  go_enter Try.func34, Try.ntmps34
  go_wp2_with fail
  refine (paUvarint w b s r HP.out).mono ?_
  rintro x w1 ⟨rfl, hp1, hg1⟩
  have H1 : Hid (PA w1 b s.uvOn r) := hp1
  have HG1 : Hid (w.grownBy w1 (some b)) := hg1
  clear hp1 hg1
  go_wp2_with fail
  refine (unzigzag s.num.1 _ (by omega) (by omega)).mono ?_
  rintro x w2 ⟨rfl, rfl⟩
  go_wp2
  go_ret
  exact ⟨rfl, H1.out, HG1.out⟩

/-- What Raw answers, and how it leaves the reader. -/
def Rs.rawOut (s : Rs) (n : Int) : List Nat := if n < 0 then [] else s.out n.toNat
def Rs.rawOn (s : Rs) (n : Int) : Rs := if n < 0 then s.fail 14 else s.on n.toNat

theorem paRaw (w : World) (b : Nat) (s : Rs) (r : Option Nat) (n : Int) (hn : -9223372036854775808 ≤ n) (hn2 : n ≤ 9223372036854775807) (h : PA w b s r) :
    Calls Try.prog 39 #[.pointer (some ⟨b, 0, none⟩), .int .i64 n] w fun x w' => ∃ v r', x = .returned v ∧ Own w' v (s.rawOut n) r' ∧ PA w' b (s.rawOn n) r ∧ w.grownBy w' (some b) ∧ (∀ g, r' = some g → w.heap.size ≤ g) := by
  have HP : Hid (PA w b s r) := h
  have HLEN : Hid (∀ m, (s.out m).length ≤ 140737488351232) := fun m => by
    by_cases h0 : s.e = 0
    · obtain ⟨h1, h2, h3⟩ := h.len h0
      unfold Rs.out
      split
      · simp
      · split
        · simp; omega
        · simp
    · rw [s.out_dead m h0]; simp
  clear h
  by_cases hneg : n < 0
  · have HO : Hid (s.rawOut n = []) := by unfold Hid Rs.rawOut; rw [if_pos hneg]
    have HN : Hid (s.rawOn n = s.fail 14) := by unfold Hid Rs.rawOn; rw [if_pos hneg]
    go_enter Try.func39, Try.ntmps39
    go_wp2_with fail
    refine (paFail w b s r 14 HP.out).mono ?_
    rintro x w1 ⟨rfl, hp1, hg1⟩
    have H1 : Hid (PA w1 b (s.fail 14) r) := hp1
    have HG1 : Hid (w.grownBy w1 (some b)) := hg1
    clear hp1 hg1
    go_wp2
    go_ret
    exact ⟨_, none, rfl, by rw [HO.out]; exact Own.nil _, by rw [HN.out]; exact H1.out, HG1.out, by simp⟩
  · obtain ⟨m, rfl⟩ : ∃ m : Nat, n = (m : Int) := ⟨n.toNat, by omega⟩
    have HO : Hid (s.rawOut m = s.out m) := by unfold Hid Rs.rawOut; rw [if_neg hneg]; simp
    have HN : Hid (s.rawOn m = s.on m) := by unfold Hid Rs.rawOn; rw [if_neg hneg]; simp
    go_enter Try.func39, Try.ntmps39
    go_wp2_with fail
    refine (paTake w b s r m (by omega) HP.out).mono ?_
    rintro x w1 ⟨v1, rfl, hb1, hp1, hg1⟩
    have HB1 : Hid (BytesAt w1 v1 (s.out m)) := hb1
    have H1 : Hid (PA w1 b (s.on m) r) := hp1
    have HG1 : Hid (w.grownBy w1 (some b)) := hg1
    clear hb1 hp1 hg1
    go_wp2_with fail
    refine (clone v1 (s.out m) w1 HB1.out (by have := HLEN.out m; omega)).mono ?_
    rintro x w2 ⟨v2, r2, rfl, ho2, hb2, hr2⟩
    have H2 : Hid (Own w2 v2 (s.out m) r2) := ho2
    have H3 : Hid (PA w2 b (s.on m) r) := H1.out.later hb2
    have HG2 : Hid (w.grownBy w2 (some b)) := grow_trans HG1.out (below_grow hb2 none) (.inr (.inl rfl))
    have HR2 : Hid (∀ g, r2 = some g → w.heap.size ≤ g) := fun g hg => Nat.le_trans HG1.out.size (hr2 g hg)
    clear ho2 hb2 hr2
    go_wp2
    go_ret
    exact ⟨v2, r2, rfl, by rw [HO.out]; exact H2.out, by rw [HN.out]; exact H3.out, HG2.out, HR2.out⟩

/-- What End tells. -/
def Rs.endE (s : Rs) : Int := if s.e = 0 then (if s.l.length - s.p = 0 then 0 else 13) else s.e
def Rs.endP (s : Rs) : Nat := if s.e = 0 then (if s.l.length - s.p = 0 then 0 else s.p) else s.p

set_option maxHeartbeats 400000 in
theorem paEnd (w : World) (b : Nat) (s : Rs) (r : Option Nat) (h : PA w b s r) :
    Calls Try.prog 19 #[.pointer (some ⟨b, 0, none⟩)] w fun x w' => x = .returned (.agg #[.int .i64 s.endE, .int .i64 s.endP]) ∧ Below w.heap.size w w' := by
  have HP : Hid (PA w b s r) := h
  have hblt := h.lt
  rcases h with ⟨h0, dv, h⟩ | ⟨h0, h⟩
  · have c1 := h.c1
    have c2 := h.c2
    have c3 := h.c3
    have hp := h.pl
    have HRE : Hid (s.rest = s.l.length - s.p) := by unfold Hid Rs.rest; rw [if_pos h0]
    clear h
    have HBA : Hid (Below w.heap.size w (w.alloc (.cells #[.int .i64 0, .int .i64 0] 27))) := (Below.refl _ _).alloc (Nat.le_refl _) _
    by_cases hz : s.l.length - s.p = 0
    · have HE : Hid (s.endE = 0 ∧ (s.endP : Int) = 0) := by unfold Hid Rs.endE Rs.endP; simp [h0, hz]
      go_enter Try.func19, Try.ntmps19
      go_wp2_with fail
      refine (paRest _ b s r (HP.out.later HBA.out)).mono ?_
      rw [HRE.out, hz]
      rintro x w1 ⟨rfl, n1, rfl⟩
      go_wp2
      exact bodyPost_ret (v := .agg #[.int .i64 0, .int .i64 0]) (by simp [results, Try.results19, go_sem]) rfl ⟨by rw [HE.out.1, HE.out.2], (((below_drewN HBA.out n1).setCell (Nat.le_refl _) _).setCell (Nat.le_refl _) _)⟩
    · have HE : Hid (s.endE = 13 ∧ (s.endP : Int) = s.p) := by unfold Hid Rs.endE Rs.endP; simp [h0, hz]
      obtain ⟨m, hm⟩ : ∃ m, s.l.length - s.p = m + 1 := ⟨s.l.length - s.p - 1, by omega⟩
      go_enter Try.func19, Try.ntmps19
      go_wp2_with fail
      refine (paRest _ b s r (HP.out.later HBA.out)).mono ?_
      rw [HRE.out, hm]
      rintro x w1 ⟨rfl, n1, rfl⟩
      clear hm hz
      go_wp2
      exact bodyPost_ret (v := .agg #[.int .i64 13, .int .i64 s.p]) (by simp [results, Try.results19, go_sem]) rfl ⟨by rw [HE.out.1, HE.out.2], (((below_drewN HBA.out n1).setCell (Nat.le_refl _) _).setCell (Nat.le_refl _) _)⟩
  · have c2 := h.c2
    have c3 := h.c3
    have he : (s.e == 0) = false := by simpa using h0
    have HE : Hid (s.endE = s.e ∧ (s.endP : Int) = s.p) := by unfold Hid Rs.endE Rs.endP; simp [h0]
    have HBA : Hid (Below w.heap.size w (w.alloc (.cells #[.int .i64 0, .int .i64 0] 27))) := (Below.refl _ _).alloc (Nat.le_refl _) _
    clear h h0
    go_enter Try.func19, Try.ntmps19
    go_wp2
    exact bodyPost_ret (v := .agg #[.int .i64 s.e, .int .i64 s.p]) (by simp [results, Try.results19, go_sem]) rfl ⟨by rw [HE.out.1, HE.out.2], (Below.refl _ _).alloc (Nat.le_refl _) _⟩

theorem max_cast (m : Int) : (max m 0).toNat = m.toNat := by omega

/-- What Text answers, and how it leaves the reader. -/
def Rs.textE (s : Rs) (most : Int) : Nat := if s.num.2.2 ≠ 0 then s.num.2.2 else if (s.num.1 : Int) > max most 0 then 14 else if s.num.1 > s.rest - s.num.2.1 then 10 else 0
def Rs.textOut (s : Rs) (most : Int) : List Nat := if s.e ≠ 0 ∨ s.textE most ≠ 0 then [] else (s.l.drop (s.p + s.num.2.1)).take s.num.1
def Rs.textOn (s : Rs) (most : Int) : Rs := if s.e ≠ 0 then s else if s.textE most ≠ 0 then ⟨s.l, s.p, s.textE most⟩ else ⟨s.l, s.p + s.num.2.1 + s.num.1, 0⟩
end Go.Proofs.Ytjefbcphefckiac
