import Derived.Test.YtklfmgkfcacfkaaEb
/-! other. -/
namespace Go.Proofs.Ytklfmgkfcacfkaa
open Go.RowKit Plain
set_option linter.unusedVariables false
set_option linter.unusedSimpArgs false

def Tg.oth (t : Tg) : Tg := if 0 < t.n ∧ t.n < 1000 then ⟨t.v, t.l, t.d, t.n + 1⟩ else t
def others (tg : List Tg) : List Tg := tg.reverse.map Tg.oth
theorem others_len (tg : List Tg) : (others tg).length = tg.length := by simp [others]
theorem oth_ok {w : World} {t : Tg} (h : t.ok w) : t.oth.ok w := by
  unfold Tg.oth
  split
  · exact ⟨h.1, h.2.1, h.2.2.1, h.2.2.2.1, by have := h.2.2.2.2; simp only at *; omega, by have := h.2.2.2.2; simp only at *; omega⟩
  · exact h
theorem oth_nums {t : Tg} (h : t.nums) : t.oth.nums := by
  unfold Tg.oth
  split
  · exact ⟨h.1, h.2.1, h.2.2.1, by have := h.2.2.2; simp only at *; omega, by have := h.2.2.2; simp only at *; omega⟩
  · exact h
theorem others_ok {w : World} {tg : List Tg} (h : ∀ t ∈ tg, t.ok w) : ∀ t ∈ others tg, t.ok w := by
  intro t ht
  obtain ⟨s, hs, rfl⟩ := List.mem_map.mp ht
  exact oth_ok (h s (by simpa using hs))
theorem others_nums {tg : List Tg} (h : ∀ t ∈ tg, t.nums) : ∀ t ∈ others tg, t.nums := by
  intro t ht
  obtain ⟨s, hs, rfl⟩ := List.mem_map.mp ht
  exact oth_nums (h s (by simpa using hs))
theorem others_step (tg : List Tg) (k p : Nat) (hk : k < tg.length) (hp : tg.length - 1 - k = p) (t : Tg) (ht : tg[p]? = some t) : (others tg).take (k + 1) = (others tg).take k ++ [t.oth] := by
  rw [List.take_succ_eq_append_getElem (by rw [others_len]; exact hk)]
  congr 1
  have hpl : p < tg.length := by omega
  rw [List.getElem?_eq_getElem hpl] at ht
  simp only [Option.some.injEq] at ht
  simp only [others, List.getElem_map, List.getElem_reverse, hp, ht]

theorem src_tg' (w : World) (b : Nat) (hb : w.heap.size = b) (t : Tg) (c0 c1 c2 : Value) (hc : t.cells = [c0, c1, c2]) (hv : t.v.oneCell' = true) (ty : TypeId) : Src Try.prog 3 23 (.slice (some ⟨b, 0, none⟩) 1 1) 1 t.cells (w.alloc (.cells #[c0, c1, c2] ty)) := by
  subst hb
  exact src_tg w t c0 c1 c2 hc hv ty
/-- A row of tokens that grows. -/
structure Gg (w wr : World) (v : Value) (ts : List Tg) (r : Option Nat) : Prop where
  ow : OwnG wr v ts r
  rb : ∀ g, r = some g → w.heap.size ≤ g
  be : Below w.heap.size w wr
theorem Gg.more {w wr w1 w' : World} {v v' : Value} {ts ts' : List Tg} {r : Option Nat} {g : Nat} (h : Gg w wr v ts r) (k : Below wr.heap.size wr w1) (ho : OwnG w' v' ts' (some g)) (hg : w1.grownBy w' r) (hq : some g = r ∨ g = w1.heap.size) : Gg w w' v' ts' (some g) := by
  have hb := below_on h.be k
  refine ⟨ho, fun x e => ?_, hb.trans (grow_below hg hb.size h.rb)⟩
  simp at e
  subst e
  rcases hq with e | e
  · exact h.rb _ e.symm
  · have := hb.size; omega

set_option maxHeartbeats 2000000 in
set_option maxRecDepth 100000 in
theorem otherAny (sv : Value) (tg : List Tg) (w : World) (h : TRd w sv tg) (hlen : tg.length ≤ 3518437208800) : Calls Try.prog 39 #[sv] w fun e w' => ∃ v r, e = .returned v ∧ OwnG w' v (others tg) r ∧ (∀ g, r = some g → w.heap.size ≤ g) ∧ Below w.heap.size w w' := by
  obtain ⟨a, cap, rfl, hlc, hcm, hok, hcells⟩ := h
  unfold maxLen at hcm
  have HCS : Hid (tg ≠ [] → ∃ b off, a = some ⟨b, off, none⟩ ∧ ∀ k (hk : k < tg.length), w.cell? ⟨b, off + k * 3, none⟩ = some tg[k].v ∧ w.cell? ⟨b, off + k * 3 + 1, none⟩ = some (.int .i64 tg[k].d) ∧ w.cell? ⟨b, off + k * 3 + 2, none⟩ = some (.int .i64 tg[k].n)) := hcells
  have HOK : Hid (∀ t ∈ tg, t.ok w) := hok
  clear hok hcells
  go_enter Try.func39, Try.ntmps39
  go_wp2
  go_loopw [3, 4] (fun s3 s4 wr => ∃ (k : Nat) (r : Option Nat) (a3 : Option Addr) (n3 c3 : Nat), k ≤ tg.length ∧ s4 = .int .i64 ((tg.length : Int) - 1 - (k : Int)) ∧ s3 = .slice a3 n3 c3 ∧ Gg w wr (.slice a3 n3 c3) ((others tg).take k) r) (fun _ s _ => (intOf s + 1).toNat)
  case atStart => exact ⟨0, none, none, 0, 0, by omega, by simp, rfl, ⟨.inl ⟨rfl, by simp, rfl⟩, by simp, Below.refl _ _⟩⟩
  case round =>
    obtain ⟨k, r, a3, n3, c3, hk, rfl, rfl, hgg⟩ := hrel
    have HG : Hid (Gg w wr (.slice a3 n3 c3) ((others tg).take k) r) := hgg
    clear hgg
    by_cases hlt : k < tg.length
    · obtain ⟨p, hp⟩ : ∃ p, tg.length - 1 - k = p := ⟨_, rfl⟩
      have ep : (tg.length : Int) - 1 - (k : Int) = (p : Int) := by omega
      have hpl : p < tg.length := by omega
      obtain ⟨b, off, rfl, HC⟩ := HCS.out (by rintro rfl; simp at hlt)
      have hck := HC p hpl
      obtain ⟨t, ht⟩ : ∃ t, tg[p] = t := ⟨_, rfl⟩
      have hokt : t.ok w := HOK.out t (by rw [← ht]; exact List.getElem_mem hpl)
      have HST : Hid ((others tg).take (k + 1) = (others tg).take k ++ [t.oth]) := others_step tg k p hlt hp t (by rw [List.getElem?_eq_getElem hpl, ht])
      have HLT : Hid (((others tg).take k).length = k) := by unfold Hid; rw [List.length_take, others_len]; omega
      rw [ht] at hck
      clear HC ht
      generalize (others tg).take k = X at HG HST HLT
      have hbl := cell_lt hck.1
      simp only at hbl
      have c0 : wr.cell? ⟨b, off + p * 3, none⟩ = some t.v := by rw [HG.out.be.cell (p := ⟨b, _, none⟩) hbl]; exact hck.1
      have c1 : wr.cell? ⟨b, off + p * 3 + 1, none⟩ = some (.int .i64 t.d) := by rw [HG.out.be.cell (p := ⟨b, _, none⟩) hbl]; exact hck.2.1
      have c2 : wr.cell? ⟨b, off + p * 3 + 2, none⟩ = some (.int .i64 t.n) := by rw [HG.out.be.cell (p := ⟨b, _, none⟩) hbl]; exact hck.2.2
      obtain ⟨tv, tl, td, tn⟩ := t
      simp only at c0 c1 c2
      obtain ⟨htb, htl, htd1, htd2, htn1, htn2⟩ := hokt
      change BytesAt w tv tl at htb
      obtain ⟨a6, c6, rfl, hlc6, hcm6, -, -⟩ := htb
      simp only at htl htd1 htd2 htn1 htn2
      unfold maxLen at hcm6
      rw [ep]
      have epm : (p : Int) - 1 = (tg.length : Int) - 1 - ((k + 1 : Nat) : Int) := by omega
      have HEP : Hid ((tg.length : Int) - 1 - (k : Int) = (p : Int)) := ep
      have HEM : Hid ((p : Int) - 1 = (tg.length : Int) - 1 - ((k + 1 : Nat) : Int)) := epm
      clear hp ep epm hck
      by_cases hx : 0 < tn ∧ tn < 1000
      · have HO : Hid (Tg.oth ⟨.slice a6 tl.length c6, tl, td, tn⟩ = ⟨.slice a6 tl.length c6, tl, td, tn + 1⟩) := by unfold Hid Tg.oth; rw [if_pos hx]
        obtain ⟨hx1, hx2⟩ := hx
        have g1 : tn > 0 := by omega
        go_wp2_with (at_builtin; refine wpList_append_tg _ rfl _ _ rfl _ _ X ⟨.slice a6 tl.length c6, tl, td, tn + 1⟩ r rfl rfl ?hOwnT ?hSrcT ?hLenT ?_)
        case hOwnT => exact (HG.out.ow.later ((Below.refl _ _).alloc (Nat.le_refl _) _)).later ((Below.refl _ _).alloc (Nat.le_refl _) _)
        case hSrcT => exact src_tg' (wr.alloc (.cells #[.slice a6 tl.length c6, .int .i64 td, .int .i64 (tn + 1)] 28)) _ (by simp) ⟨.slice a6 tl.length c6, tl, td, tn + 1⟩ (.slice a6 tl.length c6) (.int .i64 td) (.int .i64 (tn + 1)) rfl rfl 28
        case hLenT => have := HLT.out; omega
        intro v6 w6 g6 ho6 hg6 hr6
        obtain ⟨a7, n7, c7, rfl⟩ : ∃ a7 n7 c7, v6 = .slice a7 n7 c7 := by
          rcases ho6 with ⟨e, _, _⟩ | ⟨_, _, _, e, _⟩
          · exact ⟨_, _, _, e⟩
          · exact ⟨_, _, _, e⟩
        have HG6 : Hid (Gg w w6 (.slice a7 n7 c7) ((others tg).take (k + 1)) (some g6)) := by
          unfold Hid
          rw [HST.out, HO.out]
          exact HG.out.more (below_on ((Below.refl _ _).alloc (Nat.le_refl _) _) ((Below.refl _ _).alloc (Nat.le_refl _) _)) ho6 hg6 (by simpa using hr6)
        clear ho6 hg6 hr6
        go_wp2
        go_roundw
        case rel => exact ⟨k + 1, some g6, a7, n7, c7, by omega, by rw [← HEM.out], rfl, HG6.out⟩
        case measure => simp [intOf]
      · have HO : Hid (Tg.oth ⟨.slice a6 tl.length c6, tl, td, tn⟩ = ⟨.slice a6 tl.length c6, tl, td, tn⟩) := by unfold Hid Tg.oth; rw [if_neg hx]
        by_cases hx1 : 0 < tn
        · have hx2 : ¬ tn < 1000 := fun h => hx ⟨hx1, h⟩
          clear hx
          go_wp2_with (at_builtin; refine wpList_append_tg _ rfl _ _ rfl _ _ X ⟨.slice a6 tl.length c6, tl, td, tn⟩ r rfl rfl ?hOwnU ?hSrcU ?hLenU ?_)
          case hOwnU => exact (HG.out.ow.later ((Below.refl _ _).alloc (Nat.le_refl _) _)).later ((Below.refl _ _).alloc (Nat.le_refl _) _)
          case hSrcU => exact src_tg' (wr.alloc (.cells #[.slice a6 tl.length c6, .int .i64 td, .int .i64 (tn)] 28)) _ (by simp) ⟨.slice a6 tl.length c6, tl, td, tn⟩ (.slice a6 tl.length c6) (.int .i64 td) (.int .i64 (tn)) rfl rfl 28
          case hLenU => have := HLT.out; omega
          intro v6 w6 g6 ho6 hg6 hr6
          obtain ⟨a7, n7, c7, rfl⟩ : ∃ a7 n7 c7, v6 = .slice a7 n7 c7 := by
            rcases ho6 with ⟨e, _, _⟩ | ⟨_, _, _, e, _⟩
            · exact ⟨_, _, _, e⟩
            · exact ⟨_, _, _, e⟩
          have HG6 : Hid (Gg w w6 (.slice a7 n7 c7) ((others tg).take (k + 1)) (some g6)) := by
            unfold Hid
            rw [HST.out, HO.out]
            exact HG.out.more (below_on ((Below.refl _ _).alloc (Nat.le_refl _) _) ((Below.refl _ _).alloc (Nat.le_refl _) _)) ho6 hg6 (by simpa using hr6)
          clear ho6 hg6 hr6
          go_wp2
          go_roundw
          case rel => exact ⟨k + 1, some g6, a7, n7, c7, by omega, by rw [← HEM.out], rfl, HG6.out⟩
          case measure => simp [intOf]
        · clear hx
          go_wp2_with (at_builtin; refine wpList_append_tg _ rfl _ _ rfl _ _ X ⟨.slice a6 tl.length c6, tl, td, tn⟩ r rfl rfl ?hOwnV ?hSrcV ?hLenV ?_)
          case hOwnV => exact (HG.out.ow.later ((Below.refl _ _).alloc (Nat.le_refl _) _)).later ((Below.refl _ _).alloc (Nat.le_refl _) _)
          case hSrcV => exact src_tg' (wr.alloc (.cells #[.slice a6 tl.length c6, .int .i64 td, .int .i64 (tn)] 28)) _ (by simp) ⟨.slice a6 tl.length c6, tl, td, tn⟩ (.slice a6 tl.length c6) (.int .i64 td) (.int .i64 (tn)) rfl rfl 28
          case hLenV => have := HLT.out; omega
          intro v6 w6 g6 ho6 hg6 hr6
          obtain ⟨a7, n7, c7, rfl⟩ : ∃ a7 n7 c7, v6 = .slice a7 n7 c7 := by
            rcases ho6 with ⟨e, _, _⟩ | ⟨_, _, _, e, _⟩
            · exact ⟨_, _, _, e⟩
            · exact ⟨_, _, _, e⟩
          have HG6 : Hid (Gg w w6 (.slice a7 n7 c7) ((others tg).take (k + 1)) (some g6)) := by
            unfold Hid
            rw [HST.out, HO.out]
            exact HG.out.more (below_on ((Below.refl _ _).alloc (Nat.le_refl _) _) ((Below.refl _ _).alloc (Nat.le_refl _) _)) ho6 hg6 (by simpa using hr6)
          clear ho6 hg6 hr6
          go_wp2
          go_roundw
          case rel => exact ⟨k + 1, some g6, a7, n7, c7, by omega, by rw [← HEM.out], rfl, HG6.out⟩
          case measure => simp [intOf]
    · obtain rfl : k = tg.length := by omega
      have e0 : (tg.length : Int) - 1 - (tg.length : Int) = -1 := by omega
      have HF : Hid (Gg w wr (.slice a3 n3 c3) (others tg) r) := by have := HG.out; rwa [List.take_of_length_le (by rw [others_len]; omega)] at this
      clear HCS
      rw [e0]
      go_wp2
      go_ret
      exact ⟨_, r, rfl, HF.out.ow, HF.out.rb, HF.out.be⟩
end Go.Proofs.Ytklfmgkfcacfkaa
