import Derived.Test.YtjefbcphefckiacUv
namespace Go.Proofs.Ytjefbcphefckiac
open Go.RowKit Plain
set_option linter.unusedVariables false

/-- What is written over the first bytes of a row, told of the whole row. -/
theorem Own.mend {w w' : World} {g m cap : Nat} {l k : List Nat} (h : Own w (.slice (some ⟨g, 0, none⟩) m cap) l (some g)) (hs : w.heap.size ≤ w'.heap.size) (hk : ∀ c ∈ k, c < 256) (hkl : k.length ≤ l.length)
    (hf : ∀ j, w'.frozen? ⟨g, j, none⟩ = w.frozen? ⟨g, j, none⟩) (hin : ∀ j, j < k.length → w'.cell? ⟨g, j, none⟩ = some (.int .u8 ((k.getD j 0 : Nat) : Int))) (hout : ∀ j, k.length ≤ j → w'.cell? ⟨g, j, none⟩ = w.cell? ⟨g, j, none⟩) :
    Own w' (.slice (some ⟨g, 0, none⟩) m cap) (k ++ l.drop k.length) (some g) := by
  refine ⟨fun c hc => ?_, ?_⟩
  · rcases List.mem_append.mp hc with h1 | h1
    · exact hk c h1
    · exact h.1 c (List.mem_of_mem_drop h1)
  · rcases h.2 with ⟨_, _, e⟩ | ⟨g', cap', e, e2, hg, h1, h2, h3, h4, h5⟩
    · simp at e
    · simp at e; subst e
      simp only [Value.slice.injEq] at e2
      obtain ⟨_, rfl, rfl⟩ := e2
      have hl2 : (k ++ l.drop k.length).length = l.length := by simp; omega
      refine .inr ⟨g, cap, rfl, by rw [hl2], by omega, by omega, h2, fun j hj => by rw [hf]; exact h3 j hj, fun j hj => ?_, fun j hj => ?_⟩
      · by_cases hj' : j < k.length
        · rw [hin j hj']; rfl
        · rw [hout j (by omega)]; exact h4 j hj
      · by_cases hj' : j < k.length
        · rw [hin j hj', getD_left k _ hj']
        · rw [hout j (by omega), getD_right k _ (by omega), h5 j (by omega)]
          congr 3
          simp [List.getD_eq_getElem?_getD, List.getElem?_drop]
          congr 2
          omega

theorem four_len (l : List Nat) : (l ++ [165, 90, 167, 91]).length = l.length + 4 := by simp

theorem four_marks (j : Nat) (h : j < [165, 90, 167, 91].length) : (#[Value.int .u8 165, .int .u8 90, .int .u8 167, .int .u8 91] : Array Value)[j]? = some (.int .u8 (([165, 90, 167, 91].getD j 0 : Nat) : Int)) := by
  match j, h with
  | 0, _ => rfl
  | 1, _ => rfl
  | 2, _ => rfl
  | 3, _ => rfl

/-- The bytes, with marks behind them. -/
theorem roomy (vb : Value) (l : List Nat) (w : World) (hb : BytesAt w vb l) (hl : l.length ≤ 140737488351232) :
    Calls Try.prog 10 #[vb] w fun e w' => ∃ v' g, e = .returned v' ∧ Own w' v' (l ++ [165, 90, 167, 91]) (some g) ∧ w.heap.size ≤ g ∧ Below w.heap.size w w' := by
  have HB : Hid (BytesAt w vb l) := hb
  clear hb
  go_enter Try.func10, Try.ntmps10
  go_wp2_with (at_builtin; refine wpList_append_row _ rfl _ _ 24 24 rfl Try.underlying24 _ _ [] l (some w.heap.size) rfl rfl ?hOwn ?hByte ?hSrc ?hLen ?_)
  case hOwn => exact Own.empty w 5
  case hByte => exact HB.out.byte
  case hSrc => exact src_of Try.underlying24 (HB.out.later ((Below.refl _ _).alloc (Nat.le_refl _) _))
  case hLen => simp; omega
  intro v3 w3 r3 ho3 hg3 hr3 hn3
  have HB3 : Hid (Below w.heap.size w w3) := grow_below (grow_trans (World.grownBy_alloc w _ none) hg3 (.inr (.inr ⟨_, rfl, Nat.le_refl _⟩))) (Nat.le_refl _) (by simp)
  have HO3 : Hid (Own w3 v3 l r3) := ho3
  have HR3 : Hid (∀ g, r3 = some g → w.heap.size ≤ g) := by
    intro g hg
    rcases hr3 with rfl | rfl
    · simp at hg; omega
    · simp at hg; omega
  clear ho3 hg3 hr3 hn3
  go_wp2_with (at_builtin; refine wpList_append_row _ rfl _ _ 24 24 rfl Try.underlying24 _ _ l [165, 90, 167, 91] r3 rfl rfl ?hOwn ?hByte ?hSrc ?hLen ?_)
  case hOwn => exact HO3.out.later ((Below.refl _ _).alloc (Nat.le_refl _) _)
  case hByte => decide
  case hSrc => exact src_of Try.underlying24 (Own.new w3 _ [165, 90, 167, 91] 4 5 (by decide) rfl (by decide) (by decide) four_marks).bytes
  case hLen => simp; omega
  intro v4 w4 r4 ho4 hg4 hr4 hn4
  have HB4 : Hid (Below w.heap.size w w4) := (HB3.out.alloc HB3.out.size _).trans (grow_below hg4 (by have := HB3.out.size; simp; omega) HR3.out)
  have HO4 : Hid (Own w4 v4 (l ++ [165, 90, 167, 91]) r4) := ho4
  have HR4 : Hid (∀ g, r4 = some g → w.heap.size ≤ g) := by
    intro g hg
    rcases hr4 with rfl | rfl
    · exact HR3.out g hg
    · have := HB3.out.size
      simp at hg; omega
  have HN4 : Hid (r4 ≠ none) := hn4
  clear ho4 hg4 hr4 hn4
  go_wp2
  go_ret
  cases r4 with
  | none => exact absurd rfl HN4.out
  | some g => exact ⟨v4, g, rfl, HO4.out, HR4.out g rfl, HB4.out⟩

def flip (c : Nat) : Nat := 255 - c
theorem flip_xor (c : Nat) (h : c < 256) : bits .xor .u8 (c : Int) 255 = ((flip c : Nat) : Int) := by
  rw [show (255 : Int) = ((255 : Nat) : Int) from rfl, u8_xor_nat c 255 h (by decide)]
  congr 1
  have h1 := congrArg BitVec.toNat (BitVec.xor_allOnes (x := BitVec.ofNat 8 c))
  rw [BitVec.toNat_xor, BitVec.toNat_allOnes, BitVec.toNat_not, BitVec.toNat_ofNat, Nat.mod_eq_of_lt (by omega)] at h1
  exact h1
theorem flip_lt (c : Nat) : flip c < 256 := by unfold flip; omega
theorem flip_flip (l : List Nat) (h : ∀ c ∈ l, c < 256) : (l.map flip).map flip = l := by
  rw [List.map_map]
  conv => rhs; rw [← List.map_id l]
  apply List.map_congr_left
  intro c hc
  have := h c hc
  simp [flip]; omega

/-- Each bit turned, in its place. -/
theorem flipped (g cap : Nat) (l : List Nat) (w : World) (ho : Own w (.slice (some ⟨g, 0, none⟩) l.length cap) l (some g)) :
    Calls Try.prog 11 #[.slice (some ⟨g, 0, none⟩) l.length cap] w fun e w' => e = .returned (.slice (some ⟨g, 0, none⟩) l.length cap) ∧ w.grownBy w' (some g) ∧ (∀ j, w'.frozen? ⟨g, j, none⟩ = w.frozen? ⟨g, j, none⟩) ∧
      (∀ j, j < l.length → w'.cell? ⟨g, j, none⟩ = some (.int .u8 ((flip (l.getD j 0) : Nat) : Int))) ∧ (∀ j, l.length ≤ j → w'.cell? ⟨g, j, none⟩ = w.cell? ⟨g, j, none⟩) := by
  obtain ⟨hby, hrest⟩ := ho
  rcases hrest with ⟨_, _, e⟩ | ⟨g', cap', e, e2, hg, h1, h2, h3, h4, h5⟩
  · simp at e
  simp at e; subst e
  simp only [Value.slice.injEq, true_and] at e2
  subst e2
  unfold maxLen at h2
  have HBY : Hid (∀ c ∈ l, c < 256) := hby
  have H3 : Hid (∀ j, j < cap → w.frozen? ⟨g, j, none⟩ = false) := h3
  have H5 : Hid (∀ j, j < l.length → w.cell? ⟨g, j, none⟩ = some (.int .u8 ((l.getD j 0 : Nat) : Int))) := h5
  clear hby h3 h4 h5
  go_enter Try.func11, Try.ntmps11
  go_wp2
  go_loopw [3] (fun i wr => ∃ k : Nat, k ≤ l.length ∧ i = .int .i64 k ∧ w.grownBy wr (some g) ∧ (∀ j, wr.frozen? ⟨g, j, none⟩ = w.frozen? ⟨g, j, none⟩) ∧
      (∀ j, j < k → wr.cell? ⟨g, j, none⟩ = some (.int .u8 ((flip (l.getD j 0) : Nat) : Int))) ∧ (∀ j, k ≤ j → wr.cell? ⟨g, j, none⟩ = w.cell? ⟨g, j, none⟩)) (fun i _ => l.length - (intOf i).toNat)
  case atStart => exact ⟨0, by omega, rfl, ⟨rfl, rfl, rfl, Nat.le_refl _, fun _ _ _ => rfl⟩, fun _ => rfl, fun j hj => by omega, fun _ _ => rfl⟩
  case round =>
    obtain ⟨k, hk, rfl, hgr, hfr, hin, hout⟩ := hrel
    by_cases hlt : k < l.length
    · obtain ⟨c, hcv⟩ : ∃ c, l.getD k 0 = c := ⟨_, rfl⟩
      have hc256 : c < 256 := HBY.out c (by rw [← hcv, List.getD_eq_getElem?_getD, List.getElem?_eq_getElem hlt]; simp)
      have hcell : wr.cell? ⟨g, k, none⟩ = some (.int .u8 (c : Int)) := by rw [hout k (Nat.le_refl _), H5.out k hlt, hcv]
      have hfz : wr.frozen? ⟨g, k, none⟩ = false := by rw [hfr]; exact H3.out k (by omega)
      have hx := flip_xor c hc256
      have HREL : Hid ((w.grownBy (wr.setCell ⟨g, k, none⟩ (.int .u8 ((flip c : Nat) : Int))) (some g)) ∧ (∀ j, (wr.setCell ⟨g, k, none⟩ (.int .u8 ((flip c : Nat) : Int))).frozen? ⟨g, j, none⟩ = w.frozen? ⟨g, j, none⟩) ∧
          (∀ j, j < k + 1 → (wr.setCell ⟨g, k, none⟩ (.int .u8 ((flip c : Nat) : Int))).cell? ⟨g, j, none⟩ = some (.int .u8 ((flip (l.getD j 0) : Nat) : Int))) ∧ (∀ j, k + 1 ≤ j → (wr.setCell ⟨g, k, none⟩ (.int .u8 ((flip c : Nat) : Int))).cell? ⟨g, j, none⟩ = w.cell? ⟨g, j, none⟩)) := by
        refine ⟨grow_trans hgr (grow_setCells wr g k [.int .u8 ((flip c : Nat) : Int)]) (.inl rfl), fun j => ?_, fun j hj => ?_, fun j hj => ?_⟩
        · rw [← hfr j]; exact World.frozen?_setCells g [.int .u8 ((flip c : Nat) : Int)] k wr _
        · by_cases hjk : j = k
          · subst hjk; rw [World.cell?_setCell_same _ _ _ hcell, hcv]
          · rw [World.cell?_setCell_other _ _ _ _ (by simp <;> omega)]; exact hin j (by omega)
        · rw [World.cell?_setCell_other _ _ _ _ (by simp <;> omega)]; exact hout j (by omega)
      clear hgr hfr hin hout hcv
      go_wp2
      go_roundw
      case rel => exact ⟨k + 1, by omega, by go_num, HREL.out⟩
      case measure => simp [intOf]; omega
    · have HREL : Hid (w.grownBy wr (some g) ∧ (∀ j, wr.frozen? ⟨g, j, none⟩ = w.frozen? ⟨g, j, none⟩) ∧ (∀ j, j < l.length → wr.cell? ⟨g, j, none⟩ = some (.int .u8 ((flip (l.getD j 0) : Nat) : Int))) ∧ (∀ j, l.length ≤ j → wr.cell? ⟨g, j, none⟩ = w.cell? ⟨g, j, none⟩)) :=
        ⟨hgr, hfr, fun j hj => hin j (by omega), fun j hj => hout j (by omega)⟩
      clear hgr hfr hin hout
      go_wp2
      go_ret
      exact ⟨rfl, HREL.out⟩

theorem getD_replicate (n m j : Nat) (h : j < n) : (List.replicate n m).getD j 0 = m := by
  simp [List.getD_eq_getElem?_getD, h]

set_option maxHeartbeats 400000 in
/-- The bytes written full with a mark, and 64 marks behind them. -/
theorem marked (v : Value) (l : List Nat) (r : Option Nat) (m n : Nat) (w : World) (hn : l.length = n) (ho : Own w v l r) (hm : m < 256) (hl : n ≤ 140737488351232) :
    Calls Try.prog 15 #[v, .int .u8 m] w fun e w' => ∃ v' r', e = .returned v' ∧ Own w' v' (List.replicate (n + 64) m) r' ∧ w.grownBy w' r ∧ (r' = r ∨ ∃ g, r' = some g ∧ w.heap.size ≤ g) ∧ r' ≠ none := by
  by_cases hnil : n = 0
  · subst hnil
    obtain rfl : l = [] := List.length_eq_zero_iff.mp hn
    have HO1 : Hid (Own w v (List.replicate (0 + 0) m) r) := ho
    have HG1 : Hid (w.grownBy w r) := ⟨rfl, rfl, rfl, Nat.le_refl _, fun _ _ _ => rfl⟩
    obtain ⟨a, cap, hv⟩ : ∃ a cap, v = .slice a 0 cap := by
      obtain ⟨a, cap, e, _⟩ := ho.bytes
      exact ⟨a, cap, e⟩
    subst hv
    clear ho hn
    obtain ⟨n, hn0⟩ : ∃ n, n = 0 := ⟨0, rfl⟩
    go_enter Try.func15, Try.ntmps15
    go_wp2
    refine wp_loop_rounds 1 ?_
    rw [rounds_succ]
    go_wp2
    go_loopw [0, 6] (fun b i wr => ∃ (k : Nat) (q : Option Nat), k ≤ 64 ∧ i = .int .i64 k ∧ Own wr b (List.replicate (0 + k) m) q ∧ w.grownBy wr r ∧ (q = r ∨ ∃ g, q = some g ∧ w.heap.size ≤ g) ∧ (k = 0 ∨ q ≠ none)) (fun _ i _ => 64 - (intOf i).toNat)
    case atStart => exact ⟨0, r, by omega, rfl, HO1.out, HG1.out, .inl rfl, .inl rfl⟩
    case round =>
      obtain ⟨k, q, hk, rfl, ho, hg, hq, hkq⟩ := hrel
      by_cases hlt : k < 64
      · have HO : Hid (Own wr u0 (List.replicate (0 + k) m) q) := ho
        have HQ : Hid (q = r ∨ ∃ g, q = some g ∧ w.heap.size ≤ g) := hq
        clear ho hq hkq HO1 HG1
        go_wp2_with (at_builtin; refine wpList_append_row _ rfl _ _ 24 24 rfl Try.underlying24 _ _ (List.replicate (0 + k) m) [m] q rfl rfl ?hOwn ?hByte ?hSrc ?hLen ?_)
        case hOwn => exact HO.out.later ((Below.refl _ _).alloc (Nat.le_refl _) _)
        case hByte => simpa using hm
        case hSrc => exact src_one wr m 24 5 Try.underlying24
        case hLen => simp; omega
        intro v' w1 r' ho' hg' hr' hn'
        have HO2 : Hid (Own w1 v' (List.replicate (0 + k) m ++ [m]) r') := by rw [Nat.zero_add]; exact ho'
        have HN : Hid (r' ≠ none) := hn'
        have HG : Hid (w.grownBy w1 r) := grow_trans (grow_trans hg (World.grownBy_alloc wr _ none) (.inr (.inl rfl))) hg' (by
          rcases HQ.out with rfl | ⟨g, rfl, h⟩
          · exact .inl rfl
          · exact .inr (.inr ⟨g, rfl, h⟩))
        have HR : Hid (r' = r ∨ ∃ g, r' = some g ∧ w.heap.size ≤ g) := by
          rcases hr' with rfl | rfl
          · exact HQ.out
          · exact .inr ⟨_, rfl, by have := hg.size; simp; omega⟩
        clear ho' hg' hr' hn'
        go_wp2
        go_roundw
        case rel => exact ⟨k + 1, r', by omega, by go_num, by rw [show 0 + (k + 1) = 0 + k + 1 by omega, List.replicate_succ']; exact HO2.out, HG.out, HR.out, .inr HN.out⟩
        case measure => simp [intOf]; omega
      · obtain rfl : k = 64 := by omega
        have HO : Hid (Own wr u0 (List.replicate (0 + 64) m) q) := ho
        have HQ : Hid (q = r ∨ ∃ g, q = some g ∧ w.heap.size ≤ g) := hq
        have HN : Hid (q ≠ none) := hkq.elim (fun h => by omega) id
        clear ho hq hkq HO1 HG1
        go_wp2
        go_ret
        exact ⟨u0, q, rfl, HO.out, hg, HQ.out, HN.out⟩
  · obtain ⟨hby, hrest⟩ := ho
    rcases hrest with ⟨_, e, _⟩ | ⟨g, cap, rfl, rfl, hg, h1, h2, h3, h4, h5⟩
    · subst e; simp at hn; omega
    have hmx := h2
    unfold maxLen at h2
    rw [hn] at h1 h5
    rw [hn]
    have H3 : Hid (∀ j, j < cap → w.frozen? ⟨g, j, none⟩ = false) := h3
    have H4 : Hid (∀ j, j < cap → (w.cell? ⟨g, j, none⟩).isSome = true) := h4
    obtain ⟨r, hr⟩ : ∃ r, r = some g := ⟨_, rfl⟩
    have HRG : Hid (r = some g) := hr
    rw [← hr]
    clear hby h3 h4 h5 hn hr
    go_enter Try.func15, Try.ntmps15
    go_wp2
    go_loopw [5] (fun i wr => ∃ k : Nat, k ≤ n ∧ i = .int .i64 k ∧ w.grownBy wr (some g) ∧ (∀ j, wr.frozen? ⟨g, j, none⟩ = w.frozen? ⟨g, j, none⟩) ∧ (∀ j, j < cap → (wr.cell? ⟨g, j, none⟩).isSome = true) ∧
        (∀ j, j < k → wr.cell? ⟨g, j, none⟩ = some (.int .u8 (m : Int)))) (fun i _ => n - (intOf i).toNat)
    case atStart => exact ⟨0, by omega, rfl, ⟨rfl, rfl, rfl, Nat.le_refl _, fun _ _ _ => rfl⟩, fun _ => rfl, H4.out, fun j hj => by omega⟩
    case round =>
      obtain ⟨k, hk, rfl, hgr, hfr, hsome, hin⟩ := hrel
      by_cases hlt : k < n
      · obtain ⟨old, hold⟩ := Option.isSome_iff_exists.mp (hsome k (by omega))
        have hfz : wr.frozen? ⟨g, k, none⟩ = false := by rw [hfr]; exact H3.out k (by omega)
        have HREL : Hid ((w.grownBy (wr.setCell ⟨g, k, none⟩ (.int .u8 (m : Int))) (some g)) ∧ (∀ j, (wr.setCell ⟨g, k, none⟩ (.int .u8 (m : Int))).frozen? ⟨g, j, none⟩ = w.frozen? ⟨g, j, none⟩) ∧
            (∀ j, j < cap → ((wr.setCell ⟨g, k, none⟩ (.int .u8 (m : Int))).cell? ⟨g, j, none⟩).isSome = true) ∧ (∀ j, j < k + 1 → (wr.setCell ⟨g, k, none⟩ (.int .u8 (m : Int))).cell? ⟨g, j, none⟩ = some (.int .u8 (m : Int)))) := by
          refine ⟨grow_trans hgr (grow_setCells wr g k [.int .u8 (m : Int)]) (.inl rfl), fun j => ?_, fun j hj => ?_, fun j hj => ?_⟩
          · rw [← hfr j]; exact World.frozen?_setCells g [.int .u8 (m : Int)] k wr _
          · exact isSome_setCells g [.int .u8 (m : Int)] k wr _ (hsome j hj)
          · by_cases hjk : j = k
            · subst hjk; rw [World.cell?_setCell_same _ _ _ hold]
            · rw [World.cell?_setCell_other _ _ _ _ (by simp <;> omega)]; exact hin j (by omega)
        clear hgr hfr hin hsome
        go_wp2
        go_roundw
        case rel => exact ⟨k + 1, by omega, by go_num, HREL.out⟩
        case measure => simp [intOf]; omega
      · obtain rfl : k = n := by omega
        have HO1 : Hid (Own wr (.slice (some ⟨g, 0, none⟩) k cap) (List.replicate (k + 0) m) r) := by
          refine ⟨fun c hc => by rw [List.eq_of_mem_replicate hc]; exact hm, .inr ⟨g, cap, HRG.out, by simp, by have := hgr.size; omega, by simp; omega, hmx, fun j hj => by rw [hfr]; exact H3.out j hj, hsome, fun j hj => ?_⟩⟩
          simp only [Nat.add_zero, List.length_replicate] at hj
          rw [Nat.add_zero, getD_replicate k m j hj]; exact hin j hj
        have HG1 : Hid (w.grownBy wr r) := by rw [HRG.out]; exact hgr
        obtain ⟨wa, hwa⟩ : ∃ wa, wa = wr := ⟨wr, rfl⟩
        rw [← hwa] at HO1 HG1 ⊢
        clear hgr hfr hin hsome hwa H3 H4 hmx
        obtain ⟨k0, hk0⟩ : ∃ k0, k0 = k := ⟨k, rfl⟩
        subst hk0
        go_wp2
        go_loopw [0, 6] (fun b i wr => ∃ (k : Nat) (q : Option Nat), k ≤ 64 ∧ i = .int .i64 k ∧ Own wr b (List.replicate (k0 + k) m) q ∧ w.grownBy wr r ∧ (q = r ∨ ∃ g, q = some g ∧ w.heap.size ≤ g) ∧ (k = 0 ∨ q ≠ none)) (fun _ i _ => 64 - (intOf i).toNat)
        case atStart => exact ⟨0, r, by omega, rfl, HO1.out, HG1.out, .inl rfl, .inl rfl⟩
        case round =>
          obtain ⟨k, q, hk, rfl, ho, hg, hq, hkq⟩ := hrel
          by_cases hlt : k < 64
          · have HO : Hid (Own wr u0 (List.replicate (k0 + k) m) q) := ho
            have HQ : Hid (q = r ∨ ∃ g, q = some g ∧ w.heap.size ≤ g) := hq
            clear ho hq hkq HO1 HG1
            go_wp2_with (at_builtin; refine wpList_append_row _ rfl _ _ 24 24 rfl Try.underlying24 _ _ (List.replicate (k0 + k) m) [m] q rfl rfl ?hOwn ?hByte ?hSrc ?hLen ?_)
            case hOwn => exact HO.out.later ((Below.refl _ _).alloc (Nat.le_refl _) _)
            case hByte => simpa using hm
            case hSrc => exact src_one wr m 24 5 Try.underlying24
            case hLen => simp; omega
            intro v' w1 r' ho' hg' hr' hn'
            have HO2 : Hid (Own w1 v' (List.replicate (k0 + k) m ++ [m]) r') := ho'
            have HN : Hid (r' ≠ none) := hn'
            have HG : Hid (w.grownBy w1 r) := grow_trans (grow_trans hg (World.grownBy_alloc wr _ none) (.inr (.inl rfl))) hg' (by
              rcases HQ.out with rfl | ⟨g, rfl, h⟩
              · exact .inl rfl
              · exact .inr (.inr ⟨g, rfl, h⟩))
            have HR : Hid (r' = r ∨ ∃ g, r' = some g ∧ w.heap.size ≤ g) := by
              rcases hr' with rfl | rfl
              · exact HQ.out
              · exact .inr ⟨_, rfl, by have := hg.size; simp; omega⟩
            clear ho' hg' hr' hn'
            go_wp2
            go_roundw
            case rel => exact ⟨k + 1, r', by omega, by go_num, by rw [show k0 + (k + 1) = k0 + k + 1 by omega, List.replicate_succ']; exact HO2.out, HG.out, HR.out, .inr HN.out⟩
            case measure => simp [intOf]; omega
          · obtain rfl : k = 64 := by omega
            have HO : Hid (Own wr u0 (List.replicate (k0 + 64) m) q) := ho
            have HQ : Hid (q = r ∨ ∃ g, q = some g ∧ w.heap.size ≤ g) := hq
            have HN : Hid (q ≠ none) := hkq.elim (fun h => by omega) id
            clear ho hq hkq HO1 HG1
            go_wp2
            go_ret
            exact ⟨u0, q, rfl, HO.out, hg, HQ.out, HN.out⟩

/-- The first n bytes of a row, each bit turned. -/
theorem flippedAt (g m cap n : Nat) (L : List Nat) (w : World) (hn : n ≤ L.length) (ho : Own w (.slice (some ⟨g, 0, none⟩) m cap) L (some g)) :
    Calls Try.prog 11 #[.slice (some ⟨g, 0, none⟩) n cap] w fun e w' => e = .returned (.slice (some ⟨g, 0, none⟩) n cap) ∧ Own w' (.slice (some ⟨g, 0, none⟩) m cap) ((L.take n).map flip ++ L.drop n) (some g) ∧ w.grownBy w' (some g) := by
  have hl : (L.take n).length = n := by simp; omega
  have h := flipped g cap (L.take n) w (by rw [hl]; exact ho.take n hn)
  rw [hl] at h
  refine h.mono ?_
  rintro e w' ⟨he, hg, hf, hin, hout⟩
  have hml : ((L.take n).map flip).length = n := by simp; omega
  have hm := Own.mend (k := (L.take n).map flip) ho hg.size (fun c hc => by obtain ⟨d, _, rfl⟩ := List.mem_map.mp hc; exact flip_lt d) (by omega) hf
    (fun j hj => by
      rw [hml] at hj
      rw [hin j hj]
      congr 3
      have h1 : j < (L.take n).length := by omega
      simp only [List.getD_eq_getElem?_getD, List.getElem?_map, List.getElem?_eq_getElem h1]
      rfl)
    (fun j hj => hout j (by omega))
  rw [hml] at hm
  exact ⟨he, hm, hg⟩

theorem flip_twice (l M : List Nat) (h : ∀ c ∈ l, c < 256) : (((((l ++ M).take l.length).map flip ++ (l ++ M).drop l.length).take l.length).map flip ++ (((l ++ M).take l.length).map flip ++ (l ++ M).drop l.length).drop l.length) = l ++ M := by
  have e1 : (l ++ M).take l.length = l := List.take_left
  have e2 : (l ++ M).drop l.length = M := List.drop_left
  have e3 : (l.map flip).length = l.length := by simp
  rw [e1, e2]
  have e4 : (l.map flip ++ M).take l.length = l.map flip := by rw [← e3]; exact List.take_left
  have e5 : (l.map flip ++ M).drop l.length = M := by rw [← e3]; exact List.drop_left
  rw [e4, e5, flip_flip l h]
end Go.Proofs.Ytjefbcphefckiac
