import Derived.Test.YtklfmgkfcacfkaaRy
import Derived.Test.YtklfmgkfcacfkaaUn

namespace Go.Proofs.Ytklfmgkfcacfkaa
open Go.RowKit Plain
set_option linter.unusedVariables false
set_option linter.unusedSimpArgs false

theorem sol_fits : ∀ (ts : List Tk) (m n : Nat), m ≤ 4096 → tlen (ts.map Tk.g) m = (n, 0) → (∀ t ∈ ts, t.fits) ∧ ts.length + m ≤ n
  | [], m, n, hm, h => by simp [tlen] at h; subst h; simp
  | t :: ts, m, n, hm, h => by
    rw [List.map_cons] at h
    obtain ⟨h1, h2, h3, h4⟩ := tlen_cons h
    rw [tk_add] at h2 h3 h4
    obtain ⟨i1, i2⟩ := sol_fits ts _ n h2 h3
    have hp := tk_pos h1
    refine ⟨fun x hx => ?_, by simp; omega⟩
    rcases List.mem_cons.mp hx with rfl | hx
    · exact fits_of h1 (room := 4096) (by omega) (by omega)
    · exact i1 x hx

set_option maxHeartbeats 400000 in
set_option maxRecDepth 1000000 in
theorem writeOf (base n : Nat) (tv : Value) (ts : List Tk) (r : Option Nat) (w : World) (h : TRow base w tv ts r) (ht : tlen (ts.map Tk.g) 0 = (n, 0)) :
    Calls Try.prog 28 #[tv] w fun e w' => ∃ v' r', e = .returned (.tuple #[v', .int .i64 0]) ∧ Own w' v' (blk n ts) r' ∧ Below w.heap.size w w' ∧ (∀ g, r' = some g → w.heap.size ≤ g) := by
  obtain ⟨hf, hl⟩ := sol_fits ts 0 n (by omega) ht
  have hn4 : n ≤ 4096 := by have := tlen_max _ 0 (by omega) (by rw [ht]); rw [ht] at this; exact this
  have HC : Hid (Calls Try.prog 37 #[tv] w fun e w' => e = .returned (.tuple #[.int .i64 (n : Nat), .int .i64 0]) ∧ Below w.heap.size w w') := by
    have := textLengthOf tv _ w (h.rd hf)
    rw [ht] at this
    exact this
  have HT : Hid (TRow base w tv ts r) := h
  have HF : Hid (∀ t ∈ ts, t.fits) := hf
  obtain ⟨a, cap, rfl, _, _⟩ := h.own.shape
  clear h ht hf
  go_enter Try.func28, Try.ntmps28
  go_wp2_with fail
  refine HC.out.mono ?_
  rintro e w1 ⟨rfl, hb⟩
  have HB : Hid (Below w.heap.size w w1) := hb
  clear hb
  go_wp2_with fail
  refine (blockOf base n _ ts r w1 (HT.out.kept (below_grow HB.out none) (by simp)) hn4 (by omega) HF.out).mono ?_
  rintro e w2 ⟨v', r', rfl, ho, hb2, hr⟩
  have HE : Hid (Own w2 v' (blk n ts) r' ∧ Below w.heap.size w w2 ∧ ∀ g, r' = some g → w.heap.size ≤ g) := ⟨ho, HB.out.trans (hb2.mono HB.out.size), fun g e => Nat.le_trans HB.out.size (hr g e)⟩
  clear ho hb2 hr
  go_wp2
  go_ret2
  exact ⟨v', r', rfl, HE.out⟩
/-- A text's bytes, as numbers. -/
def bytesOf (s : ByteArray) : List Nat := s.data.toList.map (·.toNat)
theorem bytesOf_len (s : ByteArray) : (bytesOf s).length = s.size := by simp [bytesOf]

/-- Bytes turned into a text. -/
theorem run_to_string (s : ByteArray) (v : Value) (w : World) (h : BytesAt w v (bytesOf s)) : (convert 22 9 v).run Try.prog w = .ok (.string s) w := by
  obtain ⟨a, cap, rfl, h1, h2, h3, h4⟩ := h
  by_cases hnil : bytesOf s = []
  · have hs0 : s.data.toList = [] := by simpa [bytesOf] using hnil
    have hs1 : s = ⟨#[]⟩ := by cases s; simp at hs0; rw [hs0]
    subst hs1
    cases a with
    | none => exact run_convert_bytes_string (P := Try.prog) w 22 9 5 none 0 cap Try.underlying22 Try.underlying5 Try.underlying9
    | some x => exact run_convert_bytes_back (P := Try.prog) w 22 9 5 x cap [] Try.underlying22 Try.underlying5 Try.underlying9 (fun j hj => by simp at hj)
  · obtain ⟨b, off, rfl, h5⟩ := h4 hnil
    have := run_convert_bytes_back (P := Try.prog) w 22 9 5 ⟨b, off, none⟩ cap s.data.toList Try.underlying22 Try.underlying5 Try.underlying9 (fun j hj => by
      rw [WideShapes.add_plain, h5 j (by simpa [bytesOf] using hj)]
      have e : (bytesOf s).getD j 0 = s.data.toList[j].toNat := by
        unfold bytesOf
        rw [List.getD_eq_getElem?_getD, List.getElem?_map, List.getElem?_eq_getElem hj]
        rfl
      rw [e])
    rw [show (bytesOf s).length = s.data.toList.length by simp [bytesOf]]
    exact this

def strOf (l : List Nat) : ByteArray := ⟨(l.map UInt8.ofNat).toArray⟩
theorem bytesOf_strOf (l : List Nat) (h : ∀ c ∈ l, c < 256) : bytesOf (strOf l) = l := by
  unfold bytesOf strOf
  simp only [List.map_map]
  conv => rhs; rw [← List.map_id l]
  apply List.map_congr_left
  intro c hc
  have := h c hc
  simp [Nat.mod_eq_of_lt this]

end Go.Proofs.Ytklfmgkfcacfkaa
