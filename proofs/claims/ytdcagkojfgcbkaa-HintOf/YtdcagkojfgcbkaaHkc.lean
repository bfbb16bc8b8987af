import Derived.Test.YtdcagkojfgcbkaaHkb
import Derived.Maps.OwnSet
import Derived.Sort.MapsRangeIn
/-! hint: lastPlaces. -/
namespace Go.Proofs.Ytdcagkojfgcbkaa
open Go.RowKit Plain Go.WideMaps Go.Maps Go.Sort
set_option linter.unusedVariables false
set_option linter.unusedSimpArgs false

/-- The map behind k records. -/
def MpI (st : List Pl) (w : World) (k : Nat) (wr : World) : Prop := ∃ D : DataW Unit, wr.ownsMap Try.prog 9 (plainElem Try.prog 3) w.heap.size k D ∧ LD st k D ∧ Below w.heap.size w wr
/-- The range behind some of its keys. -/
def RnI (st : List Pl) (w : World) (rr : Nat) (v : Value) (wr : World) : Prop := ∃ (D : DataW Unit) (left : Lit → Bool) (cnt : Nat) (ps : List Int) (g : Nat), wr.ranges Try.prog 9 (plainElem Try.prog 3) w.heap.size rr st.length D left cnt ∧ LD st st.length D ∧ RgI st left ps ∧
  OwnV wr v (iv ps) (some g) ∧ w.heap.size < g ∧ g ≠ rr ∧ ps.length + cnt ≤ st.length ∧ Below w.heap.size w wr ∧ w.heap.size < rr
def LpPost (st : List Pl) (w : World) (e : Ending) (w' : World) : Prop := ∃ a c r qs, e = .returned (.slice a qs.length c) ∧ PlacesOk st qs ∧ qs.length ≤ st.length ∧ OwnV w' (.slice a qs.length c) (iv (qs.map Int.ofNat)) r ∧ (∀ g, r = some g → w.heap.size ≤ g) ∧ Below w.heap.size w w'
theorem info3 : (Try.prog.info? 3).map (fun i => (i.zero, i.size, i.bytes)) = some (some (.int .i64 0), 1, 8) := by kernel_rfl

theorem keyStr (key : Value) (kl : Lit) (hk : keyOf Try.prog 9 key = some kl) : ∃ x : ByteArray, key = (fun s : ByteArray => Value.string s) x := Maps.keyOf_string_inv Try.underlying9 hk
theorem elemInt (v : Value) (y : DataW Unit × List MemPlace) (hv : plainElem Try.prog 3 v = some y) : ∃ c, v = Value.int .i64 c := by
  obtain ⟨c, rfl, _⟩ := plainElem_int_inv Try.underlying3 hv
  exact ⟨c, rfl⟩
set_option maxHeartbeats 4000000 in
set_option maxRecDepth 100000 in
theorem lastPlacesOf (v : Value) (st : List Pl) (w : World) (h : PlsAt w v st) : Calls Try.prog 10 #[v] w (LpPost st w) := by
  obtain ⟨a, cap, rfl, hcl, hok, hcells⟩ := h
  have HC : Hid (st ≠ [] → ∃ b off, a = some ⟨b, off, none⟩ ∧ ∀ j, j < st.length → Pl.CellsAt w b (off + j * 9) (st.getD j Pl.zero)) := hcells
  have HOK : Hid (∀ x ∈ st, x.Ok) := hok
  clear hcells hok
  have hmm := @run_makeMap Try.prog
  go_enter Try.func10, Try.ntmps10
  go_wp2
  go_loopw [12] (fun i wr => ∃ (k : Nat), k ≤ st.length ∧ i = .int .i64 k ∧ Hid (MpI st w k wr)) (fun i _ => st.length - (intOf i).toNat)
  case atStart => exact ⟨0, Nat.zero_le _, rfl, _, World.ownsMap_made _ _ _ _, LD.zero st, (Below.refl _ _).alloc (Nat.le_refl _) _⟩
  case round =>
    obtain ⟨k, hk, rfl, HM⟩ := hrel
    by_cases hlt : k < st.length
    · obtain ⟨D, hown, hld, hnx⟩ := HM.out
      have HO : Hid (wr.ownsMap Try.prog 9 (plainElem Try.prog 3) w.heap.size k D) := hown
      have HN : Hid (Below w.heap.size w wr) := hnx
      have hbs := hown.lt
      have hne : st ≠ [] := by rintro rfl; simp at hlt
      obtain ⟨b, off, rfl, hc⟩ := HC.out hne
      have hck := hc k hlt
      have hck' := hck.block (HN.out.block b hck.lt)
      have hkey : keyOf Try.prog 9 (.string (pk st k)) = some (klit (pk st k)) := keyOf_string_mk Try.underlying9 (HOK.out (st.getD k Pl.zero) (by simp [hlt])).key
      have HS : Hid (LD st (k + 1) (D.put (klit (pk st k)) (.lit (.int .i64 (k : Int))))) := hld.step
      unfold pk at hkey HS
      generalize st.getD k Pl.zero = x at hck' hkey HS
      obtain ⟨xk, xo, xt, xp, xq, xkey, xval, xpos, xlen⟩ := x
      obtain ⟨c0, c1, c2, c3, c4, c5, c6, c7, c8⟩ := hck'
      simp only at c0 c1 c2 c3 c4 c5 c6 c7 c8 hkey HS
      clear hck hc hne hown hld hnx HM
      go_wp2_with (first
        | (at_mapUpdate; refine wpList_mapUpdate_own _ rfl _ _ _ 40 rfl 9 3 klaw Try.underlying40 _ w.heap.size k _ rfl (HO.out.alloc _) (by unfold maxLen; omega) _ _ _ rfl rfl hkey _ [] (plainElem_int Try.underlying3 (WalkArith.wf_i64 (by omega))) ?_)
        | go_in)
      intro w1 hown1 hgrow1
      have HM1 : Hid (MpI st w (k + 1) w1) := by
        refine ⟨_, hown1, HS.out, ?_⟩
        have h1 := HN.out.alloc (Nat.le_of_lt hbs) (.cells #[.int .i64 xk, .int .i64 xo, .int .i64 xt, .int .i64 xp, .int .i64 xq, .string xkey, .string xval, .int .i64 xpos, .int .i64 xlen] 32)
        exact h1.trans (grow_below hgrow1 (by simp; omega) (fun g hg => by simp at hg; omega))
      clear hown1 hgrow1 c0 c1 c2 c3 c4 c5 c6 c7 c8 hkey
      go_wp2
      go_roundw
      case rel => exact ⟨k + 1, by omega, by go_num, HM1.out⟩
      case measure => simp [intOf]; omega
    · obtain rfl : k = st.length := by omega
      obtain ⟨D, hown, hld, hnx⟩ := HM.out
      have hsz := hown.size_le
      have hMl := hown.lt
      have HO : Hid (wr.ownsMap Try.prog 9 (plainElem Try.prog 3) w.heap.size st.length D) := hown
      have HL : Hid (LD st st.length D) := hld
      have HN : Hid (Below w.heap.size w wr) := hnx
      obtain ⟨i0, hi, hz0, hz1, hz2⟩ := info_parts info3
      clear HC HM HOK hown hld hnx
      go_wp2_with (first
        | (at_len; refine wpList_len_own _ rfl _ 40 rfl 9 3 Try.underlying40 _ w.heap.size st.length D rfl HO.out ?_)
        | (at_make; refine wpList_make_own _ rfl _ _ 37 rfl w.heap.size 3 i0 (.int .i64 0) 1 Try.underlying37 hi hz0 hz1 .i64 .i64 _ (Maps.size D) rfl rfl rfl (by rw [hz2]; omega) (by unfold maxLen; omega) (by have := HN.out.size; omega) ?_
           intro w1 hrow1 hg1
           have HO1 : Hid (w1.ownsMap Try.prog 9 (plainElem Try.prog 3) w.heap.size st.length D) := HO.out.kept hg1 (by simp)
           have HR1 : Hid (w1.ownsRow w.heap.size 3 1 (.slice (some ⟨wr.heap.size, 0, none⟩) 0 (Maps.size D)) 0 []) := hrow1
           have HN1 : Hid (Below w.heap.size w w1) := HN.out.trans (grow_below hg1 HN.out.size (fun g hg => by cases hg))
           have hws1 := hg1.size
           clear hrow1 hg1)
        | (at_range; refine wpList_range_own _ rfl _ 40 rfl 9 3 klaw Try.underlying40 _ w.heap.size st.length D rfl HO1.out ?_
           intro w2 hrg2 hg2 hs2)
        | go_in)
      have H2 : Hid (RnI st w w1.heap.size (.slice (some ⟨wr.heap.size, 0, none⟩) 0 (Maps.size D)) w2) := by
        obtain ⟨r, hr1, hr2⟩ := OwnV.of_row HR1.out
        have hr3 := hr1
        rcases hr3 with ⟨e, _, _⟩ | ⟨g, cap', rfl, e, hgl, _⟩
        · cases e
        · cases e
          have hn2 := hg2.size
          refine ⟨D, _, _, [], wr.heap.size, hrg2, HL.out, RgI.start HL.out, hr1.kept hg2 (.inr (by simp)), hMl, by omega, by simp; omega, HN1.out.trans (grow_below hg2 HN1.out.size (fun g hg => by cases hg)), by omega⟩
      clear HR1 HO1 HN1 hrg2 hg2 hs2 HO
      go_frame
      go_loopw [6] (fun v6 wx => Hid (RnI st w w1.heap.size v6 wx)) (fun _ wx => wx.rangeLeft w.heap.size w1.heap.size)
      case atStart => exact H2.out
      case round =>
        clear H2
        obtain ⟨wq, hwq⟩ : ∃ u, u = wr := ⟨_, rfl⟩
        obtain ⟨D', left, cnt, ps, g, hrg, hld, hri, hrow, hg1, hg2, hlen, hbel, hrr⟩ := hrel.out
        have hm0 : wr.rangeLeft w.heap.size w1.heap.size = cnt := hrg.left_eq
        have hrs := hrg.lt
        have hbs := hrg.owns.lt
        obtain ⟨a6, c6, h6, hc6, hl6⟩ := hrow.shape
        rw [List.length_map] at h6 hl6
        subst h6
        go_wp2_with (first
          | (at_next; refine wpList_next_ranges _ rfl _ rfl 9 klaw (plainElem Try.prog 3) (fun s : ByteArray => Value.string s) (Value.int .i64) keyStr elemInt w.heap.size w1.heap.size st.length _ _ _ rfl hrg ?_ ?_)
          | go_in)
        · intro hc0 hl0
          obtain ⟨qs, hqs, hPO⟩ := hri.done hl0
          have hql : qs.length = ps.length := by
            have := congrArg List.length hqs
            rw [List.length_mergeSort, List.length_map] at this
            omega
          have HSO : Hid (Calls Try.prog 12 #[.slice a6 ps.length c6] wr fun e w' => e = .returned (.tuple #[]) ∧ OwnV w' (.slice a6 ps.length c6) (iv (qs.map Int.ofNat)) (some g) ∧ wr.grownBy w' (some g)) := by
            have := sortOf _ ps wr (some g) hrow (by omega)
            rw [hqs] at this
            exact this
          have HPO : Hid (PlacesOk st qs) := hPO
          have HBL : Hid (Below w.heap.size w wr) := hbel
          have HPL : Hid (ps.length = qs.length) := hql.symm
          clear hql
          clear hrg hri hrow hld hbel hqs hPO
          clear hl0 hm0 hmm hi hz0 hz1 hz2 hrs hbs hc6 hl6
          go_wp2_with fail
          refine HSO.out.mono ?_
          rintro e w5 ⟨rfl, ho5, hg5⟩
          go_wp2
          go_ret
          show LpPost st w (.returned (.slice a6 ps.length c6)) w5
          rw [HPL.out] at ho5 ⊢
          exact ⟨a6, c6, some g, qs, rfl, HPO.out, by have := HPL.out; omega, ho5, fun g' e => by cases e; omega, HBL.out.trans (grow_below hg5 HBL.out.size (fun g' e => by cases e; omega))⟩
        · intro x c kl y yp w3 cnt3 hkey hlk hR hat hrg3 hlt3 hg3 hs3 hen
          obtain ⟨c', ec, hy, hwc⟩ := plainElem_int_inv Try.underlying3 hR
          cases ec
          simp only [Prod.mk.injEq] at hy
          obtain ⟨rfl, rfl⟩ := hy
          obtain ⟨hc0, hcn, hri3⟩ := hri.next hld hlk (fun zd => hat zd)
          have HV3 : Hid (OwnV w3 (.slice a6 ps.length c6) (iv ps) (some g)) := hrow.kept hg3 (.inr (by simp; omega))
          have HRG : Hid (w3.ranges Try.prog 9 (plainElem Try.prog 3) w.heap.size w1.heap.size st.length D' (fun z => left z && !z.sameKey kl) cnt3) := hrg3
          have HRI : Hid (RgI st (fun z => left z && !z.sameKey kl) (ps ++ [c])) := hri3
          have HLD : Hid (LD st st.length D') := hld
          have HB3 : Hid (Below w.heap.size w w3) := hbel.trans (grow_below hg3 hbel.size (fun g' e => by cases e; omega))
          have hgl3 := HV3.out.lt
          clear hrg hri hrow hld hbel hat hri3 hrg3 hg3 hkey hlk hR
          go_wp2_with (at_builtin; refine wpList_append_val _ rfl _ _ 37 3 i0 (.int .i64 0) rfl Try.underlying37 hi hz0 rfl hz1 (by rw [hz2]; omega) _ _ (.int .i64 c) (iv ps) (some g) rfl rfl ?hOwn ?hSrc ?hLen ?_)
          case hOwn => exact HV3.out.kept (World.grownBy_alloc _ _ none) (.inr (by simp))
          case hSrc => exact src_val' _ _ hs3 _ rfl 37 3 3 Try.underlying37
          case hLen => rw [List.length_map]; omega
          intro v4 w4 g4 ho4 hg4 hr4
          have HNX : Hid (RnI st w w1.heap.size v4 w4 ∧ w4.rangeLeft w.heap.size w1.heap.size = cnt3) := by
            have hsa : (w3.alloc (Obj.cells #[Value.int IntKind.i64 c] 3)).heap.size = w3.heap.size + 1 := by simp
            have hrg4 := (HRG.out.alloc (.cells #[.int .i64 c] 3)).kept hg4 (by simp; omega) (by simp; omega)
            have hba : Below w.heap.size w (w3.alloc (.cells #[.int .i64 c] 3)) := HB3.out.alloc HB3.out.size _
            refine ⟨⟨D', _, _, ps ++ [c], g4, hrg4, HLD.out, HRI.out, by rw [iv, List.map_append]; exact ho4, ?_, ?_, by rw [List.length_append, List.length_singleton]; omega, hba.trans (grow_below hg4 hba.size (fun g' e => by cases e; omega)), hrr⟩, hrg4.left_eq⟩
            · rcases hr4 with h | h <;> omega
            · rcases hr4 with h | h <;> omega
          clear ho4 hg4 hr4 HV3 HRG HRI HB3 hen
          go_wp2
          go_roundw
          case rel => exact HNX.out.1
          case measure => rw [HNX.out.2, hm0]; exact hlt3
end Go.Proofs.Ytdcagkojfgcbkaa
