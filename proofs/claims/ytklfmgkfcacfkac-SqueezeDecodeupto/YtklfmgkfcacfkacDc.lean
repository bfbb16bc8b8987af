import Derived.Test.YtklfmgkfcacfkacRy
import Derived.Test.YtklfmgkfcacfkacUn

namespace Go.Proofs.Ytklfmgkfcacfkac
open Go.RowKit Plain
set_option linter.unusedVariables false
set_option linter.unusedSimpArgs false

theorem sol_fits : ∀ (ts : List Tk) (m n : Nat), m ≤ 4096 → tlen (ts.map Tk.g) m = (n, 0) → (∀ t ∈ ts, t.fits) ∧ ts.length + m ≤ n
  | [], m, n, hm, h => by simp [tlen] at h; subst h; simp
  | t :: ts, m, n, hm, h => by
    rw [List.map_cons] at h
    obtain ⟨h1, h2, h3, h4⟩ := tlen_cons h
    rw [tk_add] at h2 h3 h4
    obtain ⟨i1, i2⟩ := sol_fits ts _ n h2 h3
    have hp := tk_pos h1
    refine ⟨fun x hx => ?_, by simp; omega⟩
    rcases List.mem_cons.mp hx with rfl | hx
    · exact fits_of h1 (room := 4096) (by omega) (by omega)
    · exact i1 x hx


/-- A text's bytes, as numbers. -/
def bytesOf (s : ByteArray) : List Nat := s.data.toList.map (·.toNat)
theorem bytesOf_len (s : ByteArray) : (bytesOf s).length = s.size := by simp [bytesOf]

/-- Bytes turned into a text. -/
theorem run_to_string (s : ByteArray) (v : Value) (w : World) (h : BytesAt w v (bytesOf s)) : (convert 22 9 v).run Try.prog w = .ok (.string s) w := by
  obtain ⟨a, cap, rfl, h1, h2, h3, h4⟩ := h
  by_cases hnil : bytesOf s = []
  · have hs0 : s.data.toList = [] := by simpa [bytesOf] using hnil
    have hs1 : s = ⟨#[]⟩ := by cases s; simp at hs0; rw [hs0]
    subst hs1
    cases a with
    | none => exact run_convert_bytes_string (P := Try.prog) w 22 9 5 none 0 cap Try.underlying22 Try.underlying5 Try.underlying9
    | some x => exact run_convert_bytes_back (P := Try.prog) w 22 9 5 x cap [] Try.underlying22 Try.underlying5 Try.underlying9 (fun j hj => by simp at hj)
  · obtain ⟨b, off, rfl, h5⟩ := h4 hnil
    have := run_convert_bytes_back (P := Try.prog) w 22 9 5 ⟨b, off, none⟩ cap s.data.toList Try.underlying22 Try.underlying5 Try.underlying9 (fun j hj => by
      rw [WideShapes.add_plain, h5 j (by simpa [bytesOf] using hj)]
      have e : (bytesOf s).getD j 0 = s.data.toList[j].toNat := by
        unfold bytesOf
        rw [List.getD_eq_getElem?_getD, List.getElem?_map, List.getElem?_eq_getElem hj]
        rfl
      rw [e])
    rw [show (bytesOf s).length = s.data.toList.length by simp [bytesOf]]
    exact this

def strOf (l : List Nat) : ByteArray := ⟨(l.map UInt8.ofNat).toArray⟩
theorem bytesOf_strOf (l : List Nat) (h : ∀ c ∈ l, c < 256) : bytesOf (strOf l) = l := by
  unfold bytesOf strOf
  simp only [List.map_map]
  conv => rhs; rw [← List.map_id l]
  apply List.map_congr_left
  intro c hc
  have := h c hc
  simp [Nat.mod_eq_of_lt this]

set_option maxHeartbeats 400000 in
theorem bytesEqual (va vb : Value) (la lb : List Nat) (w : World) (ha : BytesAt w va la) (hb : BytesAt w vb lb) :
    Calls Try.prog 18 #[va, vb] w fun e w' => e = .returned (.bool (decide (la = lb))) ∧ w' = w := by
  have h1 : (convert 22 9 va).run Try.prog w = .ok (.string (strOf la)) w := run_to_string _ va w (by rw [bytesOf_strOf la ha.byte]; exact ha)
  have h2 : (convert 22 9 vb).run Try.prog w = .ok (.string (strOf lb)) w := run_to_string _ vb w (by rw [bytesOf_strOf lb hb.byte]; exact hb)
  have HE : Hid (strOf la = strOf lb ↔ la = lb) := by
    constructor
    · intro e
      rw [← bytesOf_strOf la ha.byte, ← bytesOf_strOf lb hb.byte, e]
    · intro e; rw [e]
  obtain ⟨s, hs⟩ : ∃ s, strOf la = s := ⟨_, rfl⟩
  obtain ⟨t, ht⟩ : ∃ t, strOf lb = t := ⟨_, rfl⟩
  rw [hs] at h1 HE
  rw [ht] at h2 HE
  clear hs ht ha hb
  go_enter Try.func18, Try.ntmps18
  go_wp2
  go_ret
  refine ⟨retB1 ?_, rfl⟩
  by_cases e : la = lb
  · have := HE.out.mpr e
    subst this
    simp [e]
  · have hne : s ≠ t := fun x => e (HE.out.mp x)
    have hnl : s.toList ≠ t.toList := fun x => hne (by
      rw [ByteArray.toList_eq, ByteArray.toList_eq] at x
      cases s; cases t
      simp only [Array.toList_inj] at x
      rw [x])
    simp [e, hnl]
end Go.Proofs.Ytklfmgkfcacfkac
