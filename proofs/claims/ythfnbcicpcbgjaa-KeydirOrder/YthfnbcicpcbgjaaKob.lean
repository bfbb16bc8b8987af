import Derived.Test.YthfnbcicpcbgjaaKoa
import Derived.Test.YthfnbcicpcbgjaaKnc
/-! keydir: below, After. -/
namespace Go.Proofs.Ythfnbcicpcbgjaa
open Go.RowKit Go.Lib Plain
set_option linter.unusedVariables false
set_option linter.unusedSimpArgs false

theorem ret_b {a b : Bool} (h : a = b) : Ending.returned (.bool a) = .returned (.bool b) := by rw [h]
theorem u8_ne {x y : UInt8} (h : ¬ x.toNat = y.toNat) : ((x.toNat : Int) == (y.toNat : Int)) = false := by simpa using fun h' => h (by omega)
set_option maxHeartbeats 1000000 in
theorem belowQ (a b : ByteArray) (w : World) (ha : a.size ≤ maxLen) (hb : b.size ≤ maxLen) :
    Calls Try.prog 21 #[.string a, .string b] w fun e w' => e = .returned (.bool (decide (kc a b = -1))) ∧ ∃ n, w' = w.drewN n := by
  unfold maxLen at ha hb
  go_enter Try.func21, Try.ntmps21
  go_wp2
  go_loopg [5] a.size (fun gk i w' => ∃ k n : Nat, w' = w.drewN n ∧ k + gk = a.size ∧ k ≤ b.size ∧ i = .int .i64 k ∧ Hid (kc a b = cmpL (a.data.toList.drop k) (b.data.toList.drop k)))
  case atStart => exact ⟨0, 0, rfl, by omega, by omega, rfl, rfl⟩
  case round =>
    obtain ⟨k, n, rfl, hka, hkb, rfl, HR⟩ := hrel
    by_cases h1 : k < a.size
    · by_cases h2 : k < b.size
      · have ea := drop_at a k h1
        have eb := drop_at b k h2
        have HS : Hid (kc a b = if a[k].toNat < b[k].toNat then -1 else if b[k].toNat < a[k].toNat then 1 else cmpL (a.data.toList.drop (k + 1)) (b.data.toList.drop (k + 1))) := by
          unfold Hid
          rw [HR.out, ea, eb]; rfl
        clear ea eb HR
        obtain ⟨x, hx⟩ : ∃ x, a[k].toNat = x := ⟨_, rfl⟩
        obtain ⟨y, hy⟩ : ∃ y, b[k].toNat = y := ⟨_, rfl⟩
        by_cases hxy : x = y
        · have HT : Hid (kc a b = cmpL (a.data.toList.drop (k + 1)) (b.data.toList.drop (k + 1))) := by
            unfold Hid
            rw [HS.out, hx, hy, if_neg (by omega), if_neg (by omega)]
          clear HS
          subst hxy
          go_wp2
          go_quiet (fail)
          go_wp2
          go_roundg (gk - 1)
          case rel => exact ⟨k + 1, _, rfl, by omega, by omega, by go_num, HT.out⟩
          case measure => omega
        · have HT : Hid (decide (kc a b = -1) = decide (x < y)) := by
            unfold Hid
            rw [HS.out, hx, hy]
            by_cases h3 : x < y
            · rw [if_pos h3]; simp; omega
            · rw [if_neg h3, if_pos (by omega)]; simp; omega
          have hne : ((x : Int) == (y : Int)) = false := by simpa using fun h => hxy (by omega)
          clear HS
          go_wp2
          go_quiet (fail)
          go_wp2
          go_quiet (fail)
          go_wp2
          go_ret
          exact ⟨ret_b HT.out.symm, by first | exact ⟨_, rfl⟩ | exact dn2 _ _ _ | exact dn3 _ _ _ _⟩
      · have eb := drop_off b k (by omega)
        have ea := drop_at a k h1
        have HT : Hid (decide (kc a b = -1) = false) := by
          unfold Hid
          rw [HR.out, ea, eb]; rfl
        have hlt : ¬ (a.size : Int) < (b.size : Int) := by omega
        clear ea eb HR
        go_wp2
        go_ret
        exact ⟨ret_b (by rw [HT.out]), _, rfl⟩
    · have ea := drop_off a k (by omega)
      have hkk : k = a.size := by omega
      by_cases h2 : k < b.size
      · have eb := drop_at b k h2
        have HT : Hid (decide (kc a b = -1) = true) := by
          unfold Hid
          rw [HR.out, ea, eb]; rfl
        have hlt : (a.size : Int) < (b.size : Int) := by omega
        clear ea eb HR hkk
        go_wp2
        go_ret
        exact ⟨ret_b (by rw [HT.out]), _, rfl⟩
      · have eb := drop_off b k (by omega)
        have HT : Hid (decide (kc a b = -1) = false) := by
          unfold Hid
          rw [HR.out, ea, eb]; rfl
        have hlt : ¬ (a.size : Int) < (b.size : Int) := by omega
        clear ea eb HR hkk
        go_wp2
        go_ret
        exact ⟨ret_b (by rw [HT.out]), _, rfl⟩
theorem belowOf (a b : ByteArray) (w : World) (ha : a.size ≤ maxLen) (hb : b.size ≤ maxLen) :
    Calls Try.prog 21 #[.string a, .string b] w fun e w' => e = .returned (.bool (decide (kc a b = -1))) ∧ Below w.heap.size w w' :=
  (belowQ a b w ha hb).mono fun e w' ⟨h, n, hn⟩ => ⟨h, by rw [hn]; exact below_drewN (Below.refl _ _) _⟩

/-- A string as a new row of bytes: its cells, and what lies behind them. -/
theorem conv_new (s : ByteArray) (w : World) : ∃ (cap : Nat) (C : Array Value), (convert 9 103 (.string s)).run Try.prog w = .ok (.slice (some ⟨w.heap.size, 0, none⟩) s.size cap) (w.drew.alloc (.cells C 5 (C.size, C.size + 1))) ∧ s.size ≤ C.size ∧ ∀ j (h : j < s.size), C[j]? = some (.int .u8 (s[j].toNat : Int)) := by
  refine ⟨_, _, run_bytes_of_string w 9 103 5 s Try.underlying9 Try.underlying103 Try.underlying5, ?_, ?_⟩
  · simp [bytesRow]
  · intro j h
    exact bytesRow_at s _ j h

theorem conv_back (l : List UInt8) (b n cap : Nat) (hl : l.length = n) (w : World) (hc : ∀ j (hj : j < l.length), w.cell? ⟨b, j, none⟩ = some (.int .u8 (l[j].toNat : Int))) :
    (convert 103 9 (.slice (some ⟨b, 0, none⟩) n cap)).run Try.prog w = .ok (.string ⟨l.toArray⟩) w := by
  subst hl
  exact run_convert_bytes_back (P := Try.prog) w 103 9 5 ⟨b, 0, none⟩ cap l Try.underlying103 Try.underlying5 Try.underlying9 (fun j hj => by rw [WideShapes.add_plain, Nat.zero_add]; exact hc j hj)

theorem after_row (p : ByteArray) (m : Nat) (hm : m < p.size) (hb : ¬ p[m].toNat = 255) (w : World) (C : Array Value) (cap : Nat) (hC : m + 1 ≤ C.size)
    (hcell : ∀ j (h : j < (p.extract 0 (m + 1)).size), C[j]? = some (.int .u8 ((p.extract 0 (m + 1))[j].toNat : Int)))
    (hc0 : (w.alloc (.cells C 5 (C.size, C.size + 1))).cell? ⟨w.heap.size, m, none⟩ = some (.int .u8 (p[m].toNat : Int))) :
    (convert 103 9 (.slice (some ⟨w.heap.size, 0, none⟩) (m + 1) cap)).run Try.prog ((w.alloc (.cells C 5 (C.size, C.size + 1))).setCell ⟨w.heap.size, m, none⟩ (.int .u8 ((p[m].toNat : Int) + 1))).drew
      = .ok (.string ⟨(p.data.toList.take m ++ [p[m] + 1]).toArray⟩) ((w.alloc (.cells C 5 (C.size, C.size + 1))).setCell ⟨w.heap.size, m, none⟩ (.int .u8 ((p[m].toNat : Int) + 1))).drew := by
  have hlt := p[m].toNat_lt
  have hsz : (p.extract 0 (m + 1)).size = m + 1 := by simp; omega
  have hl : (p.data.toList.take m ++ [p[m] + 1]).length = m + 1 := by simp; omega
  have hn1 : ((p[m] + 1 : UInt8).toNat : Int) = (p[m].toNat : Int) + 1 := by
    rw [UInt8.toNat_add]; simp; omega
  refine conv_back (p.data.toList.take m ++ [p[m] + 1]) w.heap.size (m + 1) cap hl _ (fun j hj => ?_)
  show ((w.alloc (.cells C 5 (C.size, C.size + 1))).setCell ⟨w.heap.size, m, none⟩ (.int .u8 ((p[m].toNat : Int) + 1))).cell? ⟨w.heap.size, j, none⟩ = _
  by_cases hjm : j = m
  · subst hjm
    rw [World.cell?_setCell_same _ _ _ hc0]
    rw [List.getElem_append_right (by rw [List.length_take]; exact Nat.min_le_left _ _)]
    simp only [List.getElem_singleton, hn1]
  · have hj' : j < m := by rw [hl] at hj; omega
    rw [World.cell?_setCell_other _ _ _ _ (by simp), World.cell?_alloc_mark, hcell j (by omega)]
    rw [List.getElem_append_left (by simp; omega)]
    rw [List.getElem_take, ByteArray.getElem_extract]
    simp only [Nat.zero_add]
    rfl

theorem ret_sb {s t : ByteArray} {b c : Bool} (h : s = t) (h' : b = c) : Ending.returned (.tuple #[.string s, .bool b]) = .returned (.tuple #[.string t, .bool c]) := by rw [h, h']

def aftS (p : ByteArray) : ByteArray := ⟨((aft p.data.toList).getD []).toArray⟩
def aftB (p : ByteArray) : Bool := (aft p.data.toList).isSome

theorem take_at (s : ByteArray) (k : Nat) (h : k < s.size) : s.data.toList.take (k + 1) = s.data.toList.take k ++ [s[k]] := by
  rw [List.take_succ_eq_append_getElem (by simpa using h)]; rfl

set_option maxRecDepth 100000 in
set_option maxHeartbeats 2000000 in
theorem afterOf (p : ByteArray) (w : World) (hp : p.size ≤ maxLen) :
    Calls Try.prog 43 #[.string p] w fun e w' => e = .returned (.tuple #[.string (aftS p), .bool (aftB p)]) ∧ Below w.heap.size w w' := by
  unfold maxLen at hp
  go_enter Try.func43, Try.ntmps43
  go_wp2
  go_loop [4] (fun i => ∃ k : Nat, k ≤ p.size ∧ i = .int .i64 k ∧ aft p.data.toList = aft (p.data.toList.take k)) (fun i => (RowKit.intOf i).toNat)
  case atStart => exact ⟨p.size, Nat.le_refl _, rfl, by rw [List.take_of_length_le (show p.data.toList.length ≤ p.size from Nat.le_refl _)]⟩
  case round =>
    obtain ⟨k, hk, rfl, hr⟩ := hrel
    have HR : Hid (aft p.data.toList = aft (p.data.toList.take k)) := hr
    clear hr
    by_cases h0 : k = 0
    · subst h0
      have HS : Hid (aft p.data.toList = none) := HR.out
      clear HR
      go_wp2
      go_ret2
      exact ⟨ret_sb (by unfold aftS; rw [HS.out]; rfl) (by unfold aftB; rw [HS.out]; rfl), Below.refl _ _⟩
    · obtain ⟨m, rfl⟩ : ∃ m, k = m + 1 := ⟨k - 1, by omega⟩
      have hm : m < p.size := by omega
      have HS : Hid (aft p.data.toList = if p[m].toNat = 255 then aft (p.data.toList.take m) else some (p.data.toList.take m ++ [p[m] + 1])) := by
        unfold Hid; rw [HR.out, take_at p m hm, aft_snoc]
      clear HR h0
      by_cases hb : p[m].toNat = 255
      · have HT : Hid (aft p.data.toList = aft (p.data.toList.take m)) := by unfold Hid; rw [HS.out, if_pos hb]
        have hb' : ((p[m].toNat : Int) == 255) = true := by rw [hb]; rfl
        clear HS hb
        go_wp2
        go_round
        case rel => exact ⟨m, by omega, rfl, HT.out⟩
        case measure => simp [RowKit.intOf]
      · have HT : Hid (aft p.data.toList = some (p.data.toList.take m ++ [p[m] + 1])) := by unfold Hid; rw [HS.out, if_neg hb]
        have hb' : ((p[m].toNat : Int) == 255) = false := by simpa using fun h => hb (by omega)
        have hlt := p[m].toNat_lt
        clear HS
        have hsz : (p.extract 0 (m + 1)).size = m + 1 := by simp; omega
        obtain ⟨cap, C, hconv, hC, hcell⟩ := conv_new (p.extract 0 (m + 1)) w
        rw [hsz] at hconv hC
        have hcm := hcell m (by omega)
        have hem : (p.extract 0 (m + 1))[m]'(by omega) = p[m] := by rw [ByteArray.getElem_extract]; simp only [Nat.zero_add]
        rw [hem] at hcm
        have hc0 : (w.alloc (.cells C 5 (C.size, C.size + 1))).cell? ⟨w.heap.size, m, none⟩ = some (.int .u8 (p[m].toNat : Int)) := by rw [World.cell?_alloc_mark, hcm]
        have hz0 : (w.alloc (.cells C 5 (C.size, C.size + 1))).frozen? ⟨w.heap.size, m, none⟩ = false := by
          rw [World.frozen?_alloc_mark]; simp; omega
        have hback := after_row p m hm hb w C cap hC hcell hc0
        clear hcell hcm hem hsz hC
        have HTL : Hid (aftS p = ⟨(p.data.toList.take m ++ [p[m] + 1]).toArray⟩) := by unfold Hid aftS; rw [HT.out]; rfl
        have HTB : Hid (aftB p = true) := by unfold Hid aftB; rw [HT.out]; rfl
        clear HT
        go_wp2
        go_ret2
        exact ⟨ret_sb HTL.out.symm HTB.out.symm, (((Below.refl _ _).alloc (Nat.le_refl _) _).setCell (Nat.le_refl _) _).drew⟩


/-- What All gives from p on and below what is after p: all that begins with p. -/
def begB (p : ByteArray) (x : Ke) : Bool := decide (p.data.toList <+: x.key.data.toList)
theorem aftS_len (p : ByteArray) : (aftS p).size ≤ p.size := by
  unfold aftS
  cases h : aft p.data.toList with
  | none => exact Nat.zero_le _
  | some q =>
    have h1 := aft_len _ _ h
    have h2 : p.data.toList.length = p.size := rfl
    show q.toArray.size ≤ _
    rw [List.size_toArray]
    omega
theorem aft_ne (p q : List UInt8) (h : aft p = some q) : q ≠ [] := by
  intro e
  subst e
  have h1 := pre_some p p [] h
  have h2 : ¬ cmpL p [] < 0 := by cases p <;> simp [cmpL]
  exact h2 (h1.2 (List.prefix_refl p)).2
theorem rng_after (p : ByteArray) (x : Ke) : rngB p (aftS p) x = begB p x := by
  have hr := kc_range x.key p
  unfold rngB begB
  cases h : aft p.data.toList with
  | none =>
    have hS : (aftS p).size = 0 := by unfold aftS; rw [h]; rfl
    rw [hS]
    have h1 := pre_none p.data.toList x.key.data.toList (aft_none _ h)
    simp only [decide_true, Bool.true_or, Bool.and_true]
    refine decide_eq_decide.mpr (Iff.trans ?_ h1)
    show kc x.key p ≠ -1 ↔ 0 ≤ kc x.key p
    omega
  | some q =>
    have hS : ¬ (aftS p).size = 0 := by
      have hne := aft_ne _ _ h
      unfold aftS
      rw [h]
      show ¬ q.toArray.size = 0
      rw [List.size_toArray]
      exact fun e => hne (List.length_eq_zero_iff.mp e)
    have h1 := pre_some p.data.toList x.key.data.toList q h
    have hq : kc x.key (aftS p) = cmpL x.key.data.toList q := by simp [kc, aftS, h]
    have hr2 := cmpL_range x.key.data.toList q
    rw [hq]
    simp only [decide_eq_false hS, Bool.false_or, ← Bool.decide_and]
    refine decide_eq_decide.mpr (Iff.trans ?_ h1)
    show kc x.key p ≠ -1 ∧ _ ↔ 0 ≤ kc x.key p ∧ _
    omega
theorem rngL_after (p : ByteArray) (l : List Ke) : rngL p (aftS p) l = l.filter (begB p) := by
  unfold rngL
  congr 1
  funext x
  exact rng_after p x
end Go.Proofs.Ythfnbcicpcbgjaa
