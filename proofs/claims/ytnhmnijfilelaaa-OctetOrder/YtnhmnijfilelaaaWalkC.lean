import Derived.Test.YtnhmnijfilelaaaWalkB
namespace Go.Proofs.Ytnhmnijfilelaaa
open Go.RowKit Go.Lib Plain
set_option linter.unusedVariables false

/-- A string as a new row of bytes: its cells, and what lies behind them. -/
theorem conv_new (s : ByteArray) (w : World) : ∃ (cap : Nat) (C : Array Value), (convert 9 22 (.string s)).run Try.prog w = .ok (.slice (some ⟨w.heap.size, 0, none⟩) s.size cap) (w.drew.alloc (.cells C 5 (C.size, C.size + 1))) ∧ s.size ≤ C.size ∧ ∀ j (h : j < s.size), C[j]? = some (.int .u8 (s[j].toNat : Int)) := by
  refine ⟨_, _, run_bytes_of_string w 9 22 5 s Try.underlying9 Try.underlying22 Try.underlying5, ?_, ?_⟩
  · simp [bytesRow]
  · intro j h
    exact bytesRow_at s _ j h

theorem conv_back (l : List UInt8) (b n cap : Nat) (hl : l.length = n) (w : World) (hc : ∀ j (hj : j < l.length), w.cell? ⟨b, j, none⟩ = some (.int .u8 (l[j].toNat : Int))) :
    (convert 22 9 (.slice (some ⟨b, 0, none⟩) n cap)).run Try.prog w = .ok (.string ⟨l.toArray⟩) w := by
  subst hl
  exact run_convert_bytes_back (P := Try.prog) w 22 9 5 ⟨b, 0, none⟩ cap l Try.underlying22 Try.underlying5 Try.underlying9 (fun j hj => by rw [WideShapes.add_plain, Nat.zero_add]; exact hc j hj)

theorem after_row (p : ByteArray) (m : Nat) (hm : m < p.size) (hb : ¬ p[m].toNat = 255) (w : World) (C : Array Value) (cap : Nat) (hC : m + 1 ≤ C.size)
    (hcell : ∀ j (h : j < (p.extract 0 (m + 1)).size), C[j]? = some (.int .u8 ((p.extract 0 (m + 1))[j].toNat : Int)))
    (hc0 : (w.alloc (.cells C 5 (C.size, C.size + 1))).cell? ⟨w.heap.size, m, none⟩ = some (.int .u8 (p[m].toNat : Int))) :
    (convert 22 9 (.slice (some ⟨w.heap.size, 0, none⟩) (m + 1) cap)).run Try.prog ((w.alloc (.cells C 5 (C.size, C.size + 1))).setCell ⟨w.heap.size, m, none⟩ (.int .u8 ((p[m].toNat : Int) + 1))).drew
      = .ok (.string ⟨(p.data.toList.take m ++ [p[m] + 1]).toArray⟩) ((w.alloc (.cells C 5 (C.size, C.size + 1))).setCell ⟨w.heap.size, m, none⟩ (.int .u8 ((p[m].toNat : Int) + 1))).drew := by
  have hlt := p[m].toNat_lt
  have hsz : (p.extract 0 (m + 1)).size = m + 1 := by simp; omega
  have hl : (p.data.toList.take m ++ [p[m] + 1]).length = m + 1 := by simp; omega
  have hn1 : ((p[m] + 1 : UInt8).toNat : Int) = (p[m].toNat : Int) + 1 := by
    rw [UInt8.toNat_add]; simp; omega
  refine conv_back (p.data.toList.take m ++ [p[m] + 1]) w.heap.size (m + 1) cap hl _ (fun j hj => ?_)
  show ((w.alloc (.cells C 5 (C.size, C.size + 1))).setCell ⟨w.heap.size, m, none⟩ (.int .u8 ((p[m].toNat : Int) + 1))).cell? ⟨w.heap.size, j, none⟩ = _
  by_cases hjm : j = m
  · subst hjm
    rw [World.cell?_setCell_same _ _ _ hc0]
    rw [List.getElem_append_right (by rw [List.length_take]; exact Nat.min_le_left _ _)]
    simp only [List.getElem_singleton, hn1]
  · have hj' : j < m := by rw [hl] at hj; omega
    rw [World.cell?_setCell_other _ _ _ _ (by simp), World.cell?_alloc_mark, hcell j (by omega)]
    rw [List.getElem_append_left (by simp; omega)]
    rw [List.getElem_take, ByteArray.getElem_extract]
    simp only [Nat.zero_add]
    rfl

theorem below_on {w u v : World} (h : Below w.heap.size w u) (k : Below u.heap.size u v) : Below w.heap.size w v := h.trans (k.mono h.size)

theorem ret_sb {s t : ByteArray} {b c : Bool} (h : s = t) (h' : b = c) : Ending.returned (.tuple #[.string s, .bool b]) = .returned (.tuple #[.string t, .bool c]) := by rw [h, h']

def aftS (p : ByteArray) : ByteArray := ⟨((aft p.data.toList).getD []).toArray⟩
def aftB (p : ByteArray) : Bool := (aft p.data.toList).isSome

theorem take_at (s : ByteArray) (k : Nat) (h : k < s.size) : s.data.toList.take (k + 1) = s.data.toList.take k ++ [s[k]] := by
  rw [List.take_succ_eq_append_getElem (by simpa using h)]; rfl

set_option maxHeartbeats 400000 in
theorem after (p : ByteArray) (w : World) (hp : p.size ≤ maxLen) :
    Calls Try.prog 10 #[.string p] w fun e w' => e = .returned (.tuple #[.string (aftS p), .bool (aftB p)]) ∧ Below w.heap.size w w' := by
  unfold maxLen at hp
  go_enter Try.func10, Try.ntmps10
  go_wp2
  go_loop [4] (fun i => ∃ k : Nat, k ≤ p.size ∧ i = .int .i64 k ∧ aft p.data.toList = aft (p.data.toList.take k)) (fun i => (intOf i).toNat)
  case atStart => exact ⟨p.size, Nat.le_refl _, rfl, by rw [List.take_of_length_le (show p.data.toList.length ≤ p.size from Nat.le_refl _)]⟩
  case round =>
    obtain ⟨k, hk, rfl, hr⟩ := hrel
    have HR : Hid (aft p.data.toList = aft (p.data.toList.take k)) := hr
    clear hr
    by_cases h0 : k = 0
    · subst h0
      have HS : Hid (aft p.data.toList = none) := HR.out
      clear HR
      go_wp2
      go_ret2
      exact ⟨ret_sb (by unfold aftS; rw [HS.out]; rfl) (by unfold aftB; rw [HS.out]; rfl), Below.refl _ _⟩
    · obtain ⟨m, rfl⟩ : ∃ m, k = m + 1 := ⟨k - 1, by omega⟩
      have hm : m < p.size := by omega
      have HS : Hid (aft p.data.toList = if p[m].toNat = 255 then aft (p.data.toList.take m) else some (p.data.toList.take m ++ [p[m] + 1])) := by
        unfold Hid; rw [HR.out, take_at p m hm, aft_snoc]
      clear HR h0
      by_cases hb : p[m].toNat = 255
      · have HT : Hid (aft p.data.toList = aft (p.data.toList.take m)) := by unfold Hid; rw [HS.out, if_pos hb]
        have hb' : ((p[m].toNat : Int) == 255) = true := by rw [hb]; rfl
        clear HS hb
        go_wp2
        go_round
        case rel => exact ⟨m, by omega, rfl, HT.out⟩
        case measure => simp [intOf]
      · have HT : Hid (aft p.data.toList = some (p.data.toList.take m ++ [p[m] + 1])) := by unfold Hid; rw [HS.out, if_neg hb]
        have hb' : ((p[m].toNat : Int) == 255) = false := by simpa using fun h => hb (by omega)
        have hlt := p[m].toNat_lt
        clear HS
        have hsz : (p.extract 0 (m + 1)).size = m + 1 := by simp; omega
        obtain ⟨cap, C, hconv, hC, hcell⟩ := conv_new (p.extract 0 (m + 1)) w
        rw [hsz] at hconv hC
        have hcm := hcell m (by omega)
        have hem : (p.extract 0 (m + 1))[m]'(by omega) = p[m] := by rw [ByteArray.getElem_extract]; simp only [Nat.zero_add]
        rw [hem] at hcm
        have hc0 : (w.alloc (.cells C 5 (C.size, C.size + 1))).cell? ⟨w.heap.size, m, none⟩ = some (.int .u8 (p[m].toNat : Int)) := by rw [World.cell?_alloc_mark, hcm]
        have hz0 : (w.alloc (.cells C 5 (C.size, C.size + 1))).frozen? ⟨w.heap.size, m, none⟩ = false := by
          rw [World.frozen?_alloc_mark]; simp; omega
        have hback := after_row p m hm hb w C cap hC hcell hc0
        clear hcell hcm hem hsz hC
        have HTL : Hid (aftS p = ⟨(p.data.toList.take m ++ [p[m] + 1]).toArray⟩) := by unfold Hid aftS; rw [HT.out]; rfl
        have HTB : Hid (aftB p = true) := by unfold Hid aftB; rw [HT.out]; rfl
        clear HT
        go_wp2
        go_ret2
        exact ⟨ret_sb HTL.out.symm HTB.out.symm, (((Below.refl _ _).alloc (Nat.le_refl _) _).setCell (Nat.le_refl _) _).drew⟩

set_option maxHeartbeats 400000 in
theorem refAfter (p : ByteArray) (w : World) (hp : p.size ≤ maxLen) :
    Calls Try.prog 12 #[.string p] w fun e w' => e = .returned (.tuple #[.string (aftS p), .bool (aftB p)]) ∧ Below w.heap.size w w' := by
  unfold maxLen at hp
  go_enter Try.func12, Try.ntmps12
  go_wp2
  go_loop [4] (fun i => ∃ k : Nat, k ≤ p.size ∧ i = .int .i64 k ∧ aft p.data.toList = aft (p.data.toList.take k)) (fun i => (intOf i).toNat)
  case atStart => exact ⟨p.size, Nat.le_refl _, rfl, by rw [List.take_of_length_le (show p.data.toList.length ≤ p.size from Nat.le_refl _)]⟩
  case round =>
    obtain ⟨k, hk, rfl, hr⟩ := hrel
    have HR : Hid (aft p.data.toList = aft (p.data.toList.take k)) := hr
    clear hr
    by_cases h0 : k = 0
    · subst h0
      have HS : Hid (aft p.data.toList = none) := HR.out
      clear HR
      go_wp2
      go_ret2
      exact ⟨ret_sb (by unfold aftS; rw [HS.out]; rfl) (by unfold aftB; rw [HS.out]; rfl), Below.refl _ _⟩
    · obtain ⟨m, rfl⟩ : ∃ m, k = m + 1 := ⟨k - 1, by omega⟩
      have hm : m < p.size := by omega
      have HS : Hid (aft p.data.toList = if p[m].toNat = 255 then aft (p.data.toList.take m) else some (p.data.toList.take m ++ [p[m] + 1])) := by
        unfold Hid; rw [HR.out, take_at p m hm, aft_snoc]
      clear HR h0
      by_cases hb : p[m].toNat = 255
      · have HT : Hid (aft p.data.toList = aft (p.data.toList.take m)) := by unfold Hid; rw [HS.out, if_pos hb]
        have hb' : ((p[m].toNat : Int) == 255) = true := by rw [hb]; rfl
        clear HS hb
        go_wp2
        go_round
        case rel => exact ⟨m, by omega, rfl, HT.out⟩
        case measure => simp [intOf]
      · have HT : Hid (aft p.data.toList = some (p.data.toList.take m ++ [p[m] + 1])) := by unfold Hid; rw [HS.out, if_neg hb]
        have hb' : ((p[m].toNat : Int) == 255) = false := by simpa using fun h => hb (by omega)
        have hlt := p[m].toNat_lt
        clear HS
        have hsz : (p.extract 0 (m + 1)).size = m + 1 := by simp; omega
        obtain ⟨cap, C, hconv, hC, hcell⟩ := conv_new (p.extract 0 (m + 1)) w
        rw [hsz] at hconv hC
        have hcm := hcell m (by omega)
        have hem : (p.extract 0 (m + 1))[m]'(by omega) = p[m] := by rw [ByteArray.getElem_extract]; simp only [Nat.zero_add]
        rw [hem] at hcm
        have hc0 : (w.alloc (.cells C 5 (C.size, C.size + 1))).cell? ⟨w.heap.size, m, none⟩ = some (.int .u8 (p[m].toNat : Int)) := by rw [World.cell?_alloc_mark, hcm]
        have hz0 : (w.alloc (.cells C 5 (C.size, C.size + 1))).frozen? ⟨w.heap.size, m, none⟩ = false := by
          rw [World.frozen?_alloc_mark]; simp; omega
        have hback := after_row p m hm hb w C cap hC hcell hc0
        clear hcell hcm hem hsz hC
        have HTL : Hid (aftS p = ⟨(p.data.toList.take m ++ [p[m] + 1]).toArray⟩) := by unfold Hid aftS; rw [HT.out]; rfl
        have HTB : Hid (aftB p = true) := by unfold Hid aftB; rw [HT.out]; rfl
        clear HT
        go_wp2
        go_ret2
        exact ⟨ret_sb HTL.out.symm HTB.out.symm, (((Below.refl _ _).alloc (Nat.le_refl _) _).setCell (Nat.le_refl _) _).drew⟩
end Go.Proofs.Ytnhmnijfilelaaa
