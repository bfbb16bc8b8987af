import Derived.Test.YtgffncbmchimdaaSf9
import Derived.WalkSpells
/-! Changes of a directory. -/
namespace Go.Proofs.Ytgffncbmchimdaa
open Go.RowKit Go.Maps Plain
set_option linter.unusedVariables false
set_option linter.unusedSimpArgs false

theorem MapAt.below {w w' : World} {b : Nat} {L : Dir} (h : MapAt w b L) (hb : Below w.heap.size w w') : MapAt w' b L := h.of_block (hb.block b h.lt)
theorem MapAt.stored {w : World} {b n : Nat} {L : Dir} {k : Nm} {g : Nat} (h : w.ownsMap Try.prog 9 Rp b n ((toD L).put (.string k) (.lit (.int .i64 (g : Int))))) : MapAt w b (put L k g) := by
  have := tight h
  rw [toD_put, toD_size] at this
  exact this
theorem MapAt.dropped {w : World} {b n : Nat} {L : Dir} {k : Nm} (h : w.ownsMap Try.prog 9 Rp b n ((toD L).del (.string k))) : MapAt w b (del L k) := by
  have := tight h
  rw [toD_del, toD_size] at this
  exact this
theorem Rp_ptr (g : Nat) : Rp (.pointer (some ⟨g, 0, none⟩)) = some (.lit (.int .i64 (g : Int)), []) := rfl
set_option maxRecDepth 1000000 in
theorem creOntoOf (s : ByteArray) (hs : s.size ≤ maxLen) (g : Nat) (m : Option Nat) (L : Dir) (w : World) (h : MapO w m L) (hL : L.length < 4398046511104) :
    Calls Try.prog 101 #[.agg #[.string s, .pointer (some ⟨g, 0, none⟩)], .map m] w fun e w' => ∃ b, e = .returned (.map (some b)) ∧ MapAt w' b (put L s.data.toList g) ∧ w.grownBy w' m ∧ (m = some b ∨ w.heap.size ≤ b) := by
  have hkey := key_str s hs
  have hmm := @run_makeMap Try.prog
  have q70 : ∀ (w : World) (r : Option Nat), (binOp .eql 64 (.map r) (.map none)).run Try.prog w = .ok (.bool r.isNone) w := fun w r => run_eql_map_nil w _ _ _ r Try.underlying64
  have HA : Hid (Below w.heap.size w (w.alloc (.cells #[.string s, .pointer (some ⟨g, 0, none⟩)] 99))) := (Below.refl _ _).alloc (Nat.le_refl _) _
  rcases h with ⟨rfl, rfl⟩ | ⟨b, rfl, h⟩
  · go_enter Try.func101, Try.ntmps101
    go_wp2_with (at_mapUpdate; go_must (refine wpList_mapUpdate_own _ rfl _ _ _ 64 rfl 9 70 keyed9 Try.underlying64 Rp (w.heap.size + 1) 0 (toD []) rfl ?hOwn (by unfold maxLen; omega) _ _ _ rfl rfl hkey _ [] (Rp_ptr g) ?_))
    case hOwn =>
      have := MapAt.made (w.alloc (.cells #[.string s, .pointer (some ⟨g, 0, none⟩)] 99))
      simpa [MapAt] using this
    intro w1 ho1 hg1
    have HP : Hid (MapAt w1 (w.heap.size + 1) (put [] s.data.toList g) ∧ w.grownBy w1 none) := by
      refine ⟨MapAt.stored ho1, grow_trans (grow_trans (World.grownBy_alloc _ _ none) (World.grownBy_alloc _ _ none) (.inl rfl)) hg1 (.inr (.inr ⟨_, rfl, by omega⟩))⟩
    clear ho1 hg1
    go_wp2
    go_ret
    exact ⟨_, rfl, HP.out.1, HP.out.2, .inr (by omega)⟩
  · have HO : Hid (MapAt w b L) := h
    clear h
    go_enter Try.func101, Try.ntmps101
    go_wp2_with (at_mapUpdate; refine wpList_mapUpdate_own _ rfl _ _ _ 64 rfl 9 70 keyed9 Try.underlying64 Rp b L.length (toD L) rfl ?hOwn (by unfold maxLen; omega) _ _ _ rfl rfl hkey _ [] (Rp_ptr g) ?_)
    case hOwn => exact HO.out.below HA.out
    intro w1 ho1 hg1
    have HP : Hid (MapAt w1 b (put L s.data.toList g) ∧ w.grownBy w1 (some b)) := by
      refine ⟨MapAt.stored ho1, grow_trans (World.grownBy_alloc _ _ (some b)) hg1 (.inl rfl)⟩
    clear ho1 hg1
    go_wp2
    go_ret
    exact ⟨_, rfl, HP.out.1, HP.out.2, .inl rfl⟩

set_option maxRecDepth 1000000 in
theorem remOntoOf (s : ByteArray) (hs : s.size ≤ maxLen) (b : Nat) (L : Dir) (w : World) (h : MapAt w b L) :
    Calls Try.prog 107 #[.agg #[.string s], .map (some b)] w fun e w' => e = .returned (.map (some b)) ∧ MapAt w' b (del L s.data.toList) ∧ w.grownBy w' (some b) := by
  have hkey := key_str s hs
  have HA : Hid (Below w.heap.size w (w.alloc (.cells #[.string s] 112))) := (Below.refl _ _).alloc (Nat.le_refl _) _
  have HO : Hid (MapAt w b L) := h
  clear h
  go_enter Try.func107, Try.ntmps107
  go_wp2_with (at_delete; go_must (refine wpList_delete_own _ rfl _ _ 64 9 rfl 70 keyed9 Try.underlying64 Rp b L.length (toD L) rfl ?hOwn _ _ rfl hkey ?_))
  case hOwn => exact HO.out.below HA.out
  intro w1 ho1 hg1
  have HP : Hid (MapAt w1 b (del L s.data.toList) ∧ w.grownBy w1 (some b)) := ⟨MapAt.dropped ho1, grow_trans (World.grownBy_alloc _ _ (some b)) hg1.grown (.inl rfl)⟩
  clear ho1 hg1
  go_wp2
  go_ret
  exact ⟨rfl, HP.out.1, HP.out.2⟩

set_option maxRecDepth 1000000 in
theorem renOntoOf (s t : ByteArray) (hs : s.size ≤ maxLen) (ht : t.size ≤ maxLen) (g b : Nat) (L : Dir) (w : World) (h : MapAt w b L) (hl : look L s.data.toList = some g) (hL : L.length < 4398046511104) :
    Calls Try.prog 106 #[.agg #[.string s, .string t], .map (some b)] w fun e w' => e = .returned (.map (some b)) ∧ MapAt w' b (del (put L t.data.toList g) s.data.toList) ∧ w.grownBy w' (some b) := by
  have hkey := key_str s hs
  have hket := key_str t ht
  have HA : Hid (Below w.heap.size w (w.alloc (.cells #[.string s, .string t] 110))) := (Below.refl _ _).alloc (Nat.le_refl _) _
  have HO : Hid (MapAt (w.alloc (.cells #[.string s, .string t] 110)) b L) := h.below HA.out
  have hlk := lookO (w.alloc (.cells #[.string s, .string t] 110)) (some b) L (.inr ⟨b, rfl, HO.out⟩) s hs
  rw [hl] at hlk
  simp only [ptrO, Option.elim] at hlk
  have hal0 : (w.alloc (.cells #[.string s, .string t] 110)).cell? ⟨w.heap.size, 0, none⟩ = some (.string s) := by rw [World.cell?_alloc_at _ _ _ _ rfl]; rfl
  have hbl : b < w.heap.size := h.lt
  clear h hl
  go_enter Try.func106, Try.ntmps106
  go_wp2_with (at_mapUpdate; refine wpList_mapUpdate_own _ rfl _ _ _ 64 rfl 9 70 keyed9 Try.underlying64 Rp b L.length (toD L) rfl HO.out (by unfold maxLen; omega) _ _ _ rfl rfl hket _ [] (Rp_ptr g) ?_)
  intro w1 ho1 hg1
  have HP1 : Hid (MapAt w1 b (put L t.data.toList g) ∧ w.grownBy w1 (some b)) := ⟨MapAt.stored ho1, grow_trans (World.grownBy_alloc _ _ (some b)) hg1 (.inl rfl)⟩
  have hc1 : w1.cell? ⟨w.heap.size, 0, none⟩ = some (.string s) := hg1.cell hal0 (fun e => by simp at e; omega)
  clear ho1 hg1 hlk hal0
  go_wp2_with (at_delete; go_must (refine wpList_delete_own _ rfl _ _ 64 9 rfl 70 keyed9 Try.underlying64 Rp b _ _ rfl HP1.out.1 _ _ rfl hkey ?_))
  intro w2 ho2 hg2
  have HP : Hid (MapAt w2 b (del (put L t.data.toList g) s.data.toList) ∧ w.grownBy w2 (some b)) := ⟨MapAt.dropped ho2, grow_trans HP1.out.2 hg2.grown (.inl rfl)⟩
  clear ho2 hg2 hc1
  go_wp2
  go_ret
  exact ⟨rfl, HP.out.1, HP.out.2⟩
end Go.Proofs.Ytgffncbmchimdaa
