import Derived.Test.YtdjaogailfipjabFa
import Derived.Test.YtdjaogailfipjabBk
namespace Go.Proofs.Ytdjaogailfipjab
open Go.RowKit Plain
set_option linter.unusedVariables false
set_option linter.unusedSimpArgs false

def wordL : List Nat := [250, 251, 252, 253, 254, 255]
def fpre (n i : Nat) : List Nat := (List.range (6 + i)).map (fw n)
theorem fpre_zero (n : Nat) : fpre n 0 = wordL := by
  show (List.range 6).map (fw n) = _
  simp [List.range_succ, fw, wordL]
theorem fpre_succ (n i : Nat) : fpre n (i + 1) = fpre n i ++ [fw n (6 + i)] := by
  unfold fpre; rw [show 6 + (i + 1) = (6 + i) + 1 by omega, List.range_succ]; simp
theorem fpre_len (n i : Nat) : (fpre n i).length = 6 + i := by simp [fpre]
theorem fpre_end (n : Nat) : fpre n n ++ wordL = ftext n := by
  unfold ftext fpre
  have e : List.range (n + 12) = List.range (6 + n) ++ (List.range 6).map (6 + n + ·) := by rw [show n + 12 = (6 + n) + 6 by omega]; exact List.range_add
  rw [e, List.map_append]
  congr 1
  simp [List.range_succ, wordL, fw_x]
theorem word_get (j : Nat) (h : j < wordL.length) : (#[Value.int .u8 250, .int .u8 251, .int .u8 252, .int .u8 253, .int .u8 254, .int .u8 255] : Array Value)[j]? = some (.int .u8 ((wordL.getD j 0 : Nat) : Int)) := by
  match j, h with
  | 0, _ => rfl
  | 1, _ => rfl
  | 2, _ => rfl
  | 3, _ => rfl
  | 4, _ => rfl
  | 5, _ => rfl
theorem own_word (w : World) : Own (w.alloc (.cells #[.int .u8 250, .int .u8 251, .int .u8 252, .int .u8 253, .int .u8 254, .int .u8 255] 5)) (.slice (some ⟨w.heap.size, 0, none⟩) 6 6) wordL (some w.heap.size) :=
  own_lit w wordL _ 6 rfl (by decide) rfl (by omega) word_get
theorem word_byte : ∀ c ∈ wordL, c < 256 := by decide

/-- The last token of the text. -/
theorem far_last {n : Nat} {ts : List Tk} (hn : n ≤ 4000) (h : PreP (ftext n) ts (ftext n).length) : ∃ k, ts.length = k + 1 ∧ k ≤ 1 ∧ ∀ (hk : k < ts.length), if n + 6 ≤ 2048 then ts[k] = .mat (n + 6) 6 else ∃ g b, ts[k] = .lit g b ∧ 6 ≤ b.length := by
  by_cases hf : n + 6 ≤ 2048
  · have hc := h.unique (far_pre_in n hf)
    have hl : ts.length = 2 := by have := congrArg List.length hc; simpa using this
    refine ⟨1, by omega, by omega, fun hk => ?_⟩
    rw [if_pos hf]
    have e : (ts.map Tk.c)[1]? = some (.mat (n + 6) 6) := by rw [hc]; rfl
    rw [List.getElem?_map, List.getElem?_eq_getElem hk] at e
    simp only [Option.map_some, Option.some.injEq] at e
    cases ht : ts[1] using Tk.elim with
    | lit g b => rw [ht] at e; simp [Tk.c_lit, Tk.c_mat] at e
    | mat d m => rw [ht] at e; exact e
  · have hc := h.unique (far_pre_out n hn (by omega))
    have hl : ts.length = 1 := by have := congrArg List.length hc; simpa using this
    refine ⟨0, by omega, by omega, fun hk => ?_⟩
    rw [if_neg hf]
    have e : (ts.map Tk.c)[0]? = some (.lit 0 (ftext n)) := by rw [hc]; rfl
    rw [List.getElem?_map, List.getElem?_eq_getElem hk] at e
    simp only [Option.map_some, Option.some.injEq] at e
    cases ht : ts[0] using Tk.elim with
    | lit g b =>
      rw [ht] at e
      simp only [Tk.c_lit, Tk.c_mat, Tk.lit_inj, true_and] at e
      exact ⟨g, b, rfl, by rw [e, ftext_len]; omega⟩
    | mat d m => rw [ht] at e; simp [Tk.c_lit, Tk.c_mat] at e

set_option maxHeartbeats 400000 in
set_option maxRecDepth 1000000 in
theorem farOut (n : Int) (w : World) (h : n < 0 ∨ 4000 < n) : Calls Try.prog 5 #[.int .i64 n] w fun e w' => e = .returned (.bool true) ∧ Below w.heap.size w w' := by
  by_cases h0 : n < 0
  · go_enter Try.func5, Try.ntmps5
    go_wp2_with fail
    refine (headOf w).mono ?_
    rintro e w1 ⟨rfl, hb⟩
    go_wp2
    go_ret
    exact ⟨rfl, hb⟩
  · have h1 : 4000 < n := by omega
    go_enter Try.func5, Try.ntmps5
    go_wp2_with fail
    refine (headOf w).mono ?_
    rintro e w1 ⟨rfl, hb⟩
    go_wp2
    go_ret
    exact ⟨rfl, hb⟩

set_option maxHeartbeats 4000000 in
set_option maxRecDepth 1000000 in
theorem farIn (n : Nat) (w : World) (hn : n ≤ 4000) : Calls Try.prog 5 #[.int .i64 n] w fun e w' => e = .returned (.bool true) ∧ Below w.heap.size w w' := by
  have HWd : Hid (Own (w.alloc (.cells #[.int .u8 250, .int .u8 251, .int .u8 252, .int .u8 253, .int .u8 254, .int .u8 255] 5)) (.slice (some ⟨w.heap.size, 0, none⟩) 6 6) wordL (some w.heap.size)) := own_word w
  have HAl : Hid (Below w.heap.size w (w.alloc (.cells #[.int .u8 250, .int .u8 251, .int .u8 252, .int .u8 253, .int .u8 254, .int .u8 255] 5))) := (Below.refl _ _).alloc (Nat.le_refl _) _
  go_enter Try.func5, Try.ntmps5
  go_wp2_with (at_builtin; refine wpList_append_row _ rfl _ _ 22 22 rfl Try.underlying22 _ _ [] wordL none rfl rfl ?hOwn ?hByte ?hSrc ?hLen ?_)
  case hOwn => exact Own.nil _
  case hByte => exact word_byte
  case hSrc => exact src_of Try.underlying22 HWd.out.bytes
  case hLen => simp [wordL]
  intro v1 w1 r1 ho1 hg1 hr1 hn1
  have HI1 : Hid (Own w1 v1 (fpre n 0) r1 ∧ Own w1 (.slice (some ⟨w.heap.size, 0, none⟩) 6 6) wordL (some w.heap.size) ∧ Below w.heap.size w w1 ∧ r1 ≠ some w.heap.size ∧ ∀ g, r1 = some g → w.heap.size ≤ g) := by
    refine ⟨by rw [fpre_zero]; simpa using ho1, HWd.out.kept hg1 (.inr (by simp)), HAl.out.trans (grow_below hg1 (by simp) (by simp)), ?_, fun g e => ?_⟩
    · rcases hr1 with rfl | rfl
      · simp
      · simp
    · rcases hr1 with rfl | rfl
      · simp at e
      · simp at e; omega
  clear ho1 hg1 hr1 hn1
  go_wp2
  go_loopg [4, 5] n (fun gk s4 s5 wx => ∃ i : Nat, ∃ r, i + gk = n ∧ s5 = .int .i64 i ∧ Hid (Own wx s4 (fpre n i) r ∧ Own wx (.slice (some ⟨w.heap.size, 0, none⟩) 6 6) wordL (some w.heap.size) ∧ Below w.heap.size w wx ∧ r ≠ some w.heap.size ∧ ∀ g, r = some g → w.heap.size ≤ g))
  case atStart => exact ⟨0, r1, by omega, rfl, HI1.out⟩
  case round =>
    obtain ⟨i, r, hig, rfl, HI⟩ := hrel
    clear HI1
    cases gk with
    | zero =>
      have hin : i = n := by omega
      subst hin
      go_wp2_with (at_builtin; refine wpList_append_row _ rfl _ _ 22 22 rfl Try.underlying22 _ _ (fpre i i) wordL r rfl rfl ?hOwn ?hByte ?hSrc ?hLen ?_)
      case hOwn => exact HI.out.1
      case hByte => exact word_byte
      case hSrc => exact src_of Try.underlying22 HI.out.2.1.bytes
      case hLen => rw [fpre_len]; simp [wordL]; omega
      intro v5 w5 r5 ho5 hg5 hr5 hn5
      rw [fpre_end] at ho5
      have HO5 : Hid (Own w5 v5 (ftext i) r5 ∧ Below w.heap.size w w5) := ⟨ho5, HI.out.2.2.1.trans (grow_below hg5 HI.out.2.2.1.size HI.out.2.2.2.2)⟩
      clear ho5 hg5 hr5 hn5
      go_wp2_with fail
      refine (tokensAny _ (ftext i) w5 HO5.out.1.bytes (by rw [ftext_len]; omega)).mono ?_
      rintro e w6 ⟨tv, ts, r6, rfl, hp6, ht6, hb6⟩
      have HB6 : Hid (Below w.heap.size w w6) := HO5.out.2.trans (hb6.mono HO5.out.2.size)
      obtain ⟨k, hkl, hk1, hlast⟩ := far_last hn hp6
      have hlk : k < ts.length := by omega
      have hl2 := hlast hlk
      rcases ht6.own with ⟨_, h0, _⟩ | ⟨gT, tcap, _, rfl, hgT, htc1, htc2, _, _, hcT⟩
      · rw [h0] at hkl; simp at hkl
      have e0 := hcT (3 * k + 0) (by omega)
      have e1 := hcT (3 * k + 1) (by omega)
      have e2 := hcT (3 * k + 2) (by omega)
      rw [tcells_get ts k hlk _ (by omega)] at e0 e1 e2
      rw [Nat.add_zero, Nat.mul_comm] at e0
      rw [Nat.mul_comm] at e1 e2
      unfold maxLen at htc2
      rw [hkl] at htc1 ⊢
      clear hp6 ht6 hb6 hcT hlast hkl
      by_cases hf : i + 6 ≤ 2048
      · rw [if_pos hf] at hl2
        rw [hl2] at e0 e1 e2
        have c0 : w6.cell? ⟨gT, k * 3, none⟩ = some (.slice none 0 0) := e0
        have c1 : w6.cell? ⟨gT, k * 3 + 1, none⟩ = some (.int .i64 ((i + 6 : Nat) : Int)) := e1
        have c2 : w6.cell? ⟨gT, k * 3 + 2, none⟩ = some (.int .i64 6) := e2
        have hI : ((i + 6 : Nat) : Int) = (i : Int) + 6 := by omega
        rw [hI] at c1
        clear e0 e1 e2 hl2 hI
        go_wp2
        go_ret
        exact ⟨rfl, HB6.out.alloc HB6.out.size _⟩
      · rw [if_neg hf] at hl2
        obtain ⟨gl, b, hlit, hb6⟩ := hl2
        rw [hlit] at e0 e1 e2
        have c0 : w6.cell? ⟨gT, k * 3, none⟩ = some (.slice (some ⟨gl, 0, none⟩) b.length b.length) := e0
        have c1 : w6.cell? ⟨gT, k * 3 + 1, none⟩ = some (.int .i64 0) := e1
        have c2 : w6.cell? ⟨gT, k * 3 + 2, none⟩ = some (.int .i64 0) := e2
        have hbm : (6 : Int) ≤ (b.length : Int) := by omega
        clear e0 e1 e2 hlit
        go_wp2
        go_ret
        exact ⟨rfl, HB6.out.alloc HB6.out.size _⟩
    | succ g =>
      rcases Nat.mod_two_eq_zero_or_one i with hp | hp
      · obtain ⟨c, hcb⟩ : ∃ c, c = fw n (6 + i) := ⟨_, rfl⟩
        have hc0 : (i : Int) / 2 % 256 = (c : Int) := by rw [hcb, fw_e n _ (by omega) (by omega) (by omega)]; omega
        have hm : ((i : Int) % 2 == 0) = true := by simp; omega
        have hm2 : (i : Int) % 2 = 0 := by omega
        clear hp
        have HC : Hid (c = fw n (6 + i)) := hcb
        clear hcb
        go_wp2_with (at_builtin; refine wpList_append_row _ rfl _ _ 22 22 rfl Try.underlying22 _ _ (fpre n i) [c] r rfl rfl ?hOwn ?hByte ?hSrc ?hLen ?_)
        case hOwn => exact HI.out.1.later ((Below.refl _ _).alloc (Nat.le_refl _) _)
        case hByte => intro z hz; simp at hz; subst hz; rw [HC.out]; exact fw_lt n _ hn (by omega)
        case hSrc => exact src_one wr c 22 5 Try.underlying22
        case hLen => rw [fpre_len]; simp; omega
        intro v4 w4 r4 ho4 hg4 hr4 hn4
        have HI4 : Hid (Own w4 v4 (fpre n (i + 1)) r4 ∧ Own w4 (.slice (some ⟨w.heap.size, 0, none⟩) 6 6) wordL (some w.heap.size) ∧ Below w.heap.size w w4 ∧ r4 ≠ some w.heap.size ∧ ∀ g, r4 = some g → w.heap.size ≤ g) := by
          obtain ⟨z1, z2, z3, z4, z5⟩ := HI.out
          have hgw : wr.grownBy w4 r := grow_trans (below_grow ((Below.refl _ _).alloc (Nat.le_refl _) _) r) hg4 (.inl rfl)
          have hlt := z2.lt
          refine ⟨?_, z2.kept hgw (.inr (Ne.symm z4)), z3.trans (grow_below hgw z3.size z5), ?_, fun g e => ?_⟩
          · rw [fpre_succ, ← HC.out]; exact ho4
          · rcases hr4 with rfl | rfl
            · exact z4
            · simp; omega
          · rcases hr4 with rfl | rfl
            · exact z5 g e
            · simp at e; omega
        clear ho4 hg4 hr4 hn4
        go_wp2
        go_roundg g
        case measure => omega
        case rel => exact ⟨i + 1, r4, by omega, by go_num, HI4.out⟩
      · obtain ⟨c, hcb⟩ : ∃ c, c = fw n (6 + i) := ⟨_, rfl⟩
        have hc0 : 100 + (i : Int) / 512 = (c : Int) := by rw [hcb, fw_o n _ (by omega) (by omega) (by omega)]; omega
        have hm : ((i : Int) % 2 == 0) = false := by simp; omega
        have hm2 : (i : Int) % 2 = 1 := by omega
        clear hp
        have HC : Hid (c = fw n (6 + i)) := hcb
        clear hcb
        go_wp2_with (at_builtin; refine wpList_append_row _ rfl _ _ 22 22 rfl Try.underlying22 _ _ (fpre n i) [c] r rfl rfl ?hOwn ?hByte ?hSrc ?hLen ?_)
        case hOwn => exact HI.out.1.later ((Below.refl _ _).alloc (Nat.le_refl _) _)
        case hByte => intro z hz; simp at hz; subst hz; rw [HC.out]; exact fw_lt n _ hn (by omega)
        case hSrc => exact src_one wr c 22 5 Try.underlying22
        case hLen => rw [fpre_len]; simp; omega
        intro v4 w4 r4 ho4 hg4 hr4 hn4
        have HI4 : Hid (Own w4 v4 (fpre n (i + 1)) r4 ∧ Own w4 (.slice (some ⟨w.heap.size, 0, none⟩) 6 6) wordL (some w.heap.size) ∧ Below w.heap.size w w4 ∧ r4 ≠ some w.heap.size ∧ ∀ g, r4 = some g → w.heap.size ≤ g) := by
          obtain ⟨z1, z2, z3, z4, z5⟩ := HI.out
          have hgw : wr.grownBy w4 r := grow_trans (below_grow ((Below.refl _ _).alloc (Nat.le_refl _) _) r) hg4 (.inl rfl)
          have hlt := z2.lt
          refine ⟨?_, z2.kept hgw (.inr (Ne.symm z4)), z3.trans (grow_below hgw z3.size z5), ?_, fun g e => ?_⟩
          · rw [fpre_succ, ← HC.out]; exact ho4
          · rcases hr4 with rfl | rfl
            · exact z4
            · simp; omega
          · rcases hr4 with rfl | rfl
            · exact z5 g e
            · simp at e; omega
        clear ho4 hg4 hr4 hn4
        go_wp2
        go_roundg g
        case measure => omega
        case rel => exact ⟨i + 1, r4, by omega, by go_num, HI4.out⟩

theorem farAny (n : Int) (w : World) : Calls Try.prog 5 #[.int .i64 n] w fun e w' => e = .returned (.bool true) ∧ Below w.heap.size w w' := by
  by_cases h : n < 0 ∨ 4000 < n
  · exact farOut n w h
  · obtain ⟨m, rfl⟩ : ∃ m : Nat, n = (m : Int) := ⟨n.toNat, by omega⟩
    exact farIn m w (by omega)
end Go.Proofs.Ytdjaogailfipjab
