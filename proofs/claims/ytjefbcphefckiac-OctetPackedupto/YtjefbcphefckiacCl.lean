import Derived.Test.YtjefbcphefckiacLaw
import Derived.Test.YtjefbcphefckiacZz
import Derived.Test.YtjefbcphefckiacRefRd
import Derived.Lib.SliceRun
namespace Go.Proofs.Ytjefbcphefckiac
open Go.RowKit Plain
set_option linter.unusedVariables false

theorem Own.isSlice {w : World} {v : Value} {l : List Nat} {r : Option Nat} (h : Own w v l r) : ∃ a cap, v = .slice a l.length cap := by
  obtain ⟨a, cap, e, _⟩ := h.bytes
  exact ⟨a, cap, e⟩

/-- A text's bytes, as numbers. -/
def bytesOf (s : ByteArray) : List Nat := s.data.toList.map (·.toNat)
theorem bytesOf_len (s : ByteArray) : (bytesOf s).length = s.size := by simp [bytesOf]
theorem bytesOf_byte (s : ByteArray) : ∀ c ∈ bytesOf s, c < 256 := by
  intro c hc
  obtain ⟨x, _, rfl⟩ := List.mem_map.mp hc
  exact x.toNat_lt

theorem clone (v : Value) (l : List Nat) (w : World) (h : BytesAt w v l) (hl : l.length ≤ 140737488355328) :
    Calls Try.prog 31 #[v] w fun e w' => ∃ v' r', e = .returned v' ∧ Own w' v' l r' ∧ Below w.heap.size w w' ∧ (∀ g, r' = some g → w.heap.size ≤ g) := by
  have HB : Hid (BytesAt w v l) := h
  obtain ⟨a, cap, rfl, _⟩ := h
  cases a with
  | none =>
    have hl0 : l = [] := by
      obtain ⟨a', cap', e, _, _, _, h5⟩ := HB.out
      simp only [Value.slice.injEq] at e
      apply Classical.byContradiction
      intro hne
      obtain ⟨b, off, e2, _⟩ := h5 hne
      rw [e2] at e; simp at e
    subst hl0
    have hq := fun wx => Lib.run_eql_slice_nil (P := Try.prog) wx 24 5 none 0 cap 0 0 Try.underlying24
    clear HB
    go_enter Try.func31, Try.ntmps31
    go_wp2
    go_ret
    exact ⟨_, none, rfl, Own.nil w, Below.refl _ _, by simp⟩
  | some x =>
    have hq := fun wx => Lib.run_eql_slice_nil (P := Try.prog) wx 24 5 (some x) l.length cap 0 0 Try.underlying24
    go_enter Try.func31, Try.ntmps31
    go_wp2_with (at_builtin; refine wpList_append_row _ rfl _ _ 24 24 rfl Try.underlying24 _ _ [] l (some w.heap.size) rfl rfl ?hOwn ?hByte ?hSrc ?hLen ?_)
    case hOwn => exact Own.empty w 5
    case hByte => exact HB.out.byte
    case hSrc => exact src_of Try.underlying24 (HB.out.later ((Below.refl _ _).alloc (Nat.le_refl _) _))
    case hLen => simpa using hl
    intro v3 w3 r3 ho3 hg3 hr3 hn3
    have HB3 : Hid (Below w.heap.size w w3) := grow_below (grow_trans (World.grownBy_alloc w _ none) hg3 (.inr (.inr ⟨_, rfl, Nat.le_refl _⟩))) (Nat.le_refl _) (by simp)
    have HO3 : Hid (Own w3 v3 l r3) := ho3
    have HR3 : Hid (∀ g, r3 = some g → w.heap.size ≤ g) := by
      intro g hg
      rcases hr3 with rfl | rfl
      · simp at hg; omega
      · simp at hg; omega
    clear ho3 hg3 hr3 hn3 hq
    go_wp2
    go_ret
    exact ⟨v3, r3, rfl, HO3.out, HB3.out, HR3.out⟩

/-- Bytes turned into a text. -/
theorem run_to_string (s : ByteArray) (v : Value) (w : World) (h : BytesAt w v (bytesOf s)) : (convert 24 9 v).run Try.prog w = .ok (.string s) w := by
  obtain ⟨a, cap, rfl, h1, h2, h3, h4⟩ := h
  by_cases hnil : bytesOf s = []
  · have hs0 : s.data.toList = [] := by simpa [bytesOf] using hnil
    have hs1 : s = ⟨#[]⟩ := by cases s; simp at hs0; rw [hs0]
    subst hs1
    cases a with
    | none => exact run_convert_bytes_string (P := Try.prog) w 24 9 5 none 0 cap Try.underlying24 Try.underlying5 Try.underlying9
    | some x => exact run_convert_bytes_back (P := Try.prog) w 24 9 5 x cap [] Try.underlying24 Try.underlying5 Try.underlying9 (fun j hj => by simp at hj)
  · obtain ⟨b, off, rfl, h5⟩ := h4 hnil
    have := run_convert_bytes_back (P := Try.prog) w 24 9 5 ⟨b, off, none⟩ cap s.data.toList Try.underlying24 Try.underlying5 Try.underlying9 (fun j hj => by
      rw [WideShapes.add_plain, h5 j (by simpa [bytesOf] using hj)]
      have e : (bytesOf s).getD j 0 = s.data.toList[j].toNat := by
        unfold bytesOf
        rw [List.getD_eq_getElem?_getD, List.getElem?_map, List.getElem?_eq_getElem hj]
        rfl
      rw [e])
    rw [show (bytesOf s).length = s.data.toList.length by simp [bytesOf]]
    exact this

theorem refUnzigzag (u : Int) (w : World) (h1 : 0 ≤ u) (h2 : u ≤ 18446744073709551615) :
    Calls Try.prog 54 #[.int .u64 u] w fun e w' => e = .returned (.int .i64 (unzz u)) ∧ w' = w := by
  by_cases h : u % 2 = 0
  · have HV : Hid (unzz u = u / 2) := by unfold Hid unzz; rw [if_pos h]
    go_enter Try.func54, Try.ntmps54
    go_wp2
    go_ret
    exact ⟨ret_k (by rw [HV.out]), rfl⟩
  · have HV : Hid (unzz u = -(u / 2) - 1) := by unfold Hid unzz; rw [if_neg h]
    have h' : (u % 2 == 0) = false := by simpa using h
    clear h
    go_enter Try.func54, Try.ntmps54
    go_wp2
    go_ret
    exact ⟨ret_k (by rw [HV.out]), rfl⟩


theorem wrap64_range (x : Int) : -9223372036854775808 ≤ wrap64 x ∧ wrap64 x ≤ 9223372036854775807 := by
  have := bounds_i64 (wrap64_wf x)
  omega
end Go.Proofs.Ytjefbcphefckiac
