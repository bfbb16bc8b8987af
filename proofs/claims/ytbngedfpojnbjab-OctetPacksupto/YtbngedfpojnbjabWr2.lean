import Derived.Test.YtbngedfpojnbjabWr
import Derived.Lib.SliceRun
namespace Go.Proofs.Ytbngedfpojnbjab
open Go.RowKit Plain
set_option linter.unusedVariables false

theorem vRaw (b : Nat) (data : List Nat) (r : Option Nat) (x : Value) (k : List Nat) (w : World) (h : WAt w b data r) (hx : BytesAt w x k) (hl : data.length + k.length ≤ 140737488355328) :
    Calls Try.prog 44 #[.pointer (some ⟨b, 0, none⟩), x] w fun e w' => e = .returned (.tuple #[]) ∧ WPost w w' b (data ++ k) r := by
  have HW : Hid (WAt w b data r) := h
  obtain ⟨dv, hcell, hfz, ho, hne⟩ := h
  have HO : Hid (Own w dv data r) := ho
  have HX : Hid (BytesAt w x k) := hx
  have HNE : Hid (r ≠ some b) := hne
  have hblt := cell_lt hcell
  clear ho hne hx
  go_enter Try.func44, Try.ntmps44
  go_wp2_with (at_builtin; refine wpList_append_row _ rfl _ _ 23 23 rfl Try.underlying23 _ _ data k r rfl rfl ?hOwn ?hByte ?hSrc ?hLen ?_)
  case hOwn => exact HO.out
  case hByte => exact HX.out.byte
  case hSrc => exact src_of Try.underlying23 HX.out
  intro v' w1 r' ho' hg' hr' hn'
  obtain ⟨a', cap', rfl⟩ := ho'.isSlice
  have HO2 : Hid (Own w1 (.slice a' (data ++ k).length cap') (data ++ k) r') := ho'
  have HG : Hid (w.grownBy w1 r) := hg'
  have HR : Hid (r' = r ∨ ∃ g, r' = some g ∧ w.heap.size ≤ g) := by
    rcases hr' with rfl | rfl
    · exact .inl rfl
    · exact .inr ⟨_, rfl, Nat.le_refl _⟩
  obtain ⟨hcell1, hfz1⟩ := wat_cells (data := data) hcell hfz HNE.out HG.out
  clear ho' hg' hr' hn' hcell hfz
  go_wp2
  go_end0
  exact ⟨rfl, by simpa using wat_store HW.out HG.out HO2.out HR.out⟩

theorem clone (v : Value) (l : List Nat) (w : World) (h : BytesAt w v l) (hl : l.length ≤ 140737488355328) :
    Calls Try.prog 46 #[v] w fun e w' => ∃ v' r', e = .returned v' ∧ Own w' v' l r' ∧ Below w.heap.size w w' ∧ (∀ g, r' = some g → w.heap.size ≤ g) := by
  have HB : Hid (BytesAt w v l) := h
  obtain ⟨a, cap, rfl, _⟩ := h
  cases a with
  | none =>
    have hl0 : l = [] := by
      obtain ⟨a', cap', e, _, _, _, h5⟩ := HB.out
      simp only [Value.slice.injEq] at e
      apply Classical.byContradiction
      intro hne
      obtain ⟨b, off, e2, _⟩ := h5 hne
      rw [e2] at e; simp at e
    subst hl0
    have hq := fun wx => Lib.run_eql_slice_nil (P := Try.prog) wx 23 5 none 0 cap 0 0 Try.underlying23
    clear HB
    go_enter Try.func46, Try.ntmps46
    go_wp2
    go_ret
    exact ⟨_, none, rfl, Own.nil w, Below.refl _ _, by simp⟩
  | some x =>
    have hq := fun wx => Lib.run_eql_slice_nil (P := Try.prog) wx 23 5 (some x) l.length cap 0 0 Try.underlying23
    go_enter Try.func46, Try.ntmps46
    go_wp2_with (at_builtin; refine wpList_append_row _ rfl _ _ 23 23 rfl Try.underlying23 _ _ [] l (some w.heap.size) rfl rfl ?hOwn ?hByte ?hSrc ?hLen ?_)
    case hOwn => exact Own.empty w 5
    case hByte => exact HB.out.byte
    case hSrc => exact src_of Try.underlying23 (HB.out.later ((Below.refl _ _).alloc (Nat.le_refl _) _))
    case hLen => simpa using hl
    intro v3 w3 r3 ho3 hg3 hr3 hn3
    have HB3 : Hid (Below w.heap.size w w3) := grow_below (grow_trans (World.grownBy_alloc w _ none) hg3 (.inr (.inr ⟨_, rfl, Nat.le_refl _⟩))) (Nat.le_refl _) (by simp)
    have HO3 : Hid (Own w3 v3 l r3) := ho3
    have HR3 : Hid (∀ g, r3 = some g → w.heap.size ≤ g) := by
      intro g hg
      rcases hr3 with rfl | rfl
      · simp at hg; omega
      · simp at hg; omega
    clear ho3 hg3 hr3 hn3 hq
    go_wp2
    go_ret
    exact ⟨v3, r3, rfl, HO3.out, HB3.out, HR3.out⟩

theorem wBytes (b : Nat) (data : List Nat) (r : Option Nat) (w : World) (h : WAt w b data r) (hl : data.length ≤ 140737488355328) :
    Calls Try.prog 25 #[.pointer (some ⟨b, 0, none⟩)] w fun e w' => ∃ v' r', e = .returned v' ∧ Own w' v' data r' ∧ Below w.heap.size w w' ∧ (∀ g, r' = some g → w.heap.size ≤ g) := by
  obtain ⟨dv, hcell, hfz, ho, hne⟩ := h
  have HO : Hid (BytesAt w dv data) := ho.bytes
  clear ho hne
  go_enter Try.func25, Try.ntmps25
  go_wp2_with fail
  refine (clone dv data w HO.out hl).mono ?_
  rintro e w1 ⟨v', r', rfl, ho', hb', hr'⟩
  have HO2 : Hid (Own w1 v' data r') := ho'
  have HB : Hid (Below w.heap.size w w1) := hb'
  have HR : Hid (∀ g, r' = some g → w.heap.size ≤ g) := hr'
  clear ho' hb' hr'
  go_wp2
  go_ret
  exact ⟨v', r', rfl, HO2.out, HB.out, HR.out⟩

theorem vBytes (b : Nat) (data : List Nat) (r : Option Nat) (w : World) (h : WAt w b data r) (hl : data.length ≤ 140737488355328) :
    Calls Try.prog 45 #[.pointer (some ⟨b, 0, none⟩)] w fun e w' => ∃ v' g, e = .returned v' ∧ Own w' v' data (some g) ∧ Below w.heap.size w w' ∧ w.heap.size ≤ g := by
  obtain ⟨dv, hcell, hfz, ho, hne⟩ := h
  have HB : Hid (BytesAt w dv data) := ho.bytes
  have hblt := cell_lt hcell
  clear ho hne
  go_enter Try.func45, Try.ntmps45
  go_wp2_with (at_builtin; refine wpList_append_row _ rfl _ _ 23 23 rfl Try.underlying23 _ _ [] data (some w.heap.size) rfl rfl ?hOwn ?hByte ?hSrc ?hLen ?_)
  case hOwn => exact Own.empty w 5
  case hByte => exact HB.out.byte
  case hSrc => exact src_of Try.underlying23 (HB.out.later ((Below.refl _ _).alloc (Nat.le_refl _) _))
  intro v3 w3 r3 ho3 hg3 hr3 hn3
  have HB3 : Hid (Below w.heap.size w w3) := grow_below (grow_trans (World.grownBy_alloc w _ none) hg3 (.inr (.inr ⟨_, rfl, Nat.le_refl _⟩))) (Nat.le_refl _) (by simp)
  have HO3 : Hid (Own w3 v3 data r3) := ho3
  have HR3 : Hid (∃ g, r3 = some g ∧ w.heap.size ≤ g) := by
    rcases hr3 with rfl | rfl
    · exact ⟨_, rfl, Nat.le_refl _⟩
    · exact ⟨_, rfl, by simp⟩
  clear ho3 hg3 hr3 hn3
  go_wp2
  go_ret
  obtain ⟨g, rfl, hg⟩ := HR3.out
  exact ⟨v3, g, rfl, HO3.out, HB3.out, hg⟩

theorem wLen (b : Nat) (data : List Nat) (r : Option Nat) (w : World) (h : WAt w b data r) :
    Calls Try.prog 26 #[.pointer (some ⟨b, 0, none⟩)] w fun e w' => e = .returned (.int .i64 data.length) ∧ w' = w := by
  obtain ⟨dv, hcell, hfz, ho, hne⟩ := h
  obtain ⟨a', cap', rfl⟩ := ho.isSlice
  clear ho hne
  go_enter Try.func26, Try.ntmps26
  go_wp2
  go_ret
  exact ⟨rfl, rfl⟩

theorem vByte (b : Nat) (data : List Nat) (r : Option Nat) (c : Nat) (w : World) (h : WAt w b data r) (hc : c < 256) (hl : data.length + 1 ≤ 140737488355328) :
    Calls Try.prog 32 #[.pointer (some ⟨b, 0, none⟩), .int .u8 c] w fun e w' => e = .returned (.tuple #[]) ∧ WPost w w' b (data ++ [c]) r := by
  have HW : Hid (WAt w b data r) := h
  clear h
  go_enter Try.func32, Try.ntmps32
  go_wp2_with fail
  have hb1 : Below w.heap.size w (w.alloc (.cells #[.int .u8 (c : Int)] 5)) := (Below.refl _ _).alloc (Nat.le_refl _) _
  refine (vRaw b data r _ [c] _ (HW.out.later hb1) (Own.new w _ [c] 1 5 (by simpa using hc) rfl (by simp) (by decide) (fun j hj => one_byte c j hj)).bytes (by simpa using hl)).mono ?_
  rintro e w1 ⟨rfl, hp⟩
  have HP : Hid (WPost w w1 b (data ++ [c]) r) := WPost.on (Kept2.of_below hb1) (.inl rfl) hp
  clear hp hb1
  go_wp2
  go_end0
  exact ⟨rfl, HP.out⟩

theorem vUvarint (b : Nat) (data : List Nat) (r : Option Nat) (v : Nat) (w : World) (h : WAt w b data r) (hv : v < 18446744073709551616) (hl : data.length + 10 ≤ 140737488355328) :
    Calls Try.prog 34 #[.pointer (some ⟨b, 0, none⟩), .int .u64 v] w fun e w' => e = .returned (.tuple #[]) ∧ WPost w w' b (data ++ uv v) r := by
  have HW : Hid (WAt w b data r) := h
  have h10 := uv_len10 (show v < 2 ^ 64 from hv)
  clear h
  go_enter Try.func34, Try.ntmps34
  go_wp2_with fail
  refine (refUvarint v _ hv).mono ?_
  rintro e w1 ⟨v1, g1, rfl, ho1, hg1, hb1⟩
  have HO : Hid (Own w1 v1 (uv v) (some g1)) := ho1
  have HB : Hid (Below w.heap.size w w1) := hb1
  clear ho1 hg1 hb1
  go_wp2_with fail
  refine (vRaw b data r _ (uv v) _ (HW.out.later HB.out) HO.out.bytes (by omega)).mono ?_
  rintro e w2 ⟨rfl, hp⟩
  have HP : Hid (WPost w w2 b (data ++ uv v) r) := WPost.on (Kept2.of_below HB.out) (.inl rfl) hp
  clear hp
  go_wp2
  go_end0
  exact ⟨rfl, HP.out⟩

theorem vVarint (b : Nat) (data : List Nat) (r : Option Nat) (s : Int) (w : World) (h : WAt w b data r) (h1 : -9223372036854775808 ≤ s) (h2 : s ≤ 9223372036854775807) (hl : data.length + 10 ≤ 140737488355328) :
    Calls Try.prog 36 #[.pointer (some ⟨b, 0, none⟩), .int .i64 s] w fun e w' => e = .returned (.tuple #[]) ∧ WPost w w' b (data ++ uv (zz s).toNat) r := by
  have HW : Hid (WAt w b data r) := h
  have hz := zz_range s h1 h2
  obtain ⟨z, hzz⟩ : ∃ z : Nat, zz s = (z : Int) := ⟨(zz s).toNat, by omega⟩
  have h10 := uv_len10 (v := z) (by omega)
  clear h
  go_enter Try.func36, Try.ntmps36
  go_wp2_with fail
  refine (refZigzag s _ h1 h2).mono ?_
  rintro e w1 ⟨rfl, rfl⟩
  rw [hzz]
  go_wp2_with fail
  refine (refUvarint z _ (by omega)).mono ?_
  rintro e w2 ⟨v1, g1, rfl, ho1, hg1, hb1⟩
  have HO : Hid (Own w2 v1 (uv z) (some g1)) := ho1
  have HB : Hid (Below w1.heap.size w1 w2) := hb1
  clear ho1 hg1 hb1
  go_wp2_with fail
  refine (vRaw b data r _ (uv z) _ (HW.out.later HB.out) HO.out.bytes (by omega)).mono ?_
  rintro e w3 ⟨rfl, hp⟩
  have HP : Hid (WPost w1 w3 b (data ++ uv z) r) := WPost.on (Kept2.of_below HB.out) (.inl rfl) hp
  clear hp
  go_wp2
  go_end0
  rw [show (zz s).toNat = z by omega]
  exact ⟨rfl, HP.out⟩
end Go.Proofs.Ytbngedfpojnbjab
