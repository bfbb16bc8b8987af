import Derived.Test.YtpclicimakgpdaaCfg
import Derived.Test.YtpclicimakgpdaaCLay
/-! cursor: the program's Fold. -/
namespace Go.Proofs.Ytpclicimakgpdaa
open Go.RowKit Go.Maps Go.Sort Go.Shelf Plain
set_option linter.unusedVariables false
set_option linter.unusedSimpArgs false

theorem MapQ.putP {w : World} {b n : Nat} {L : List Pp} {p : Pp} (h : w.ownsMap Try.prog 9 Rq b n ((toQ L).put (.string (kb p.key)) p.d)) : MapQ w b (layP L p) := by
  rw [toQ_put] at h
  have := tightQ h
  rw [toQ_size] at this
  exact this
theorem MapQ.delP {w : World} {b n : Nat} {L : List Pp} {k : List UInt8} (h : w.ownsMap Try.prog 9 Rq b n ((toQ L).del (.string k))) : MapQ w b (delP L k) := by
  rw [toQ_del] at h
  have := tightQ h
  rw [toQ_size] at this
  exact this
theorem lookS (w : World) (b : Nat) (L : List Pp) (h : MapQ w b L) (s : ByteArray) (hs : s.size ≤ maxLen) (p : Pp) (hp : lookP L (kb s) = some p) : (Instr.lookup 33 (.map (some b)) (.string s) false).run Try.prog w = .ok (.agg #[.string p.key, .string p.val, .int .i64 p.off, .int .i64 p.time]) w := by
  have hz : (zeroValue 29).run Try.prog w = .ok Pp.zero.agg w := by kernel_rfl
  obtain ⟨v, ps, h1, h2⟩ := World.ownsMap.lookup h keyed9 Try.underlying33 hz (zd := Pp.zero.d) (zp := []) rfl (key_strP hs)
  rw [toQ_at, hp] at h2
  obtain ⟨q, rfl, e⟩ := Rq_inv h2
  simp at e
  obtain rfl := Pp.d_inj e.1
  exact h1
theorem sortsA (m : Nat) : AnyZ.SortsIn Try.prog Try.sortedA_ren Fence.wide m :=
  ⟨fun blk off cap ss W hH hblk hsz => callsIn_wide.2 (AnyM.slices_Sort_string Try.sortA blk off cap ss W hH hblk hsz),
   fun p cap W => callsIn_wide.2 (AnyM.slices_Sort_string_none Try.sortA p cap W)⟩
set_option maxHeartbeats 1000000 in
theorem mkeysOf (b : Nat) (w : World) : Calls Try.prog 10 #[.map (some b)] w fun e w' => e = .returned (.func (.func 15) #[] #[.pointer (some ⟨w.heap.size, 0, none⟩)]) ∧ w' = w.alloc (.cells #[.map (some b)] 33) :=
  (callsIn_wide (n := 5)).1 (AnyZ.keys_in Try.keysA Fence.wide 5 trivial rfl (some b) w)
set_option maxHeartbeats 1000000 in
theorem sortedOf (b : Nat) (L : List Pp) (w : World) (hown : MapQ w b L) (hmax : L.length < 4398046511104) :
    Calls Try.prog 9 #[.func (.func 15) #[] #[.pointer (some ⟨w.heap.size, 0, none⟩)]] (w.alloc (.cells #[.map (some b)] 33)) fun e w' => ∃ (v : Value) (ss : List (List UInt8)), e = .returned v ∧ ss.Perm (L.map fun p => kb p.key) ∧
      w'.ownsRow w.heap.size 9 1 v ss.length ((ss.mergeSort (fun x y => decide (x ≤ y))).map encStr) ∧ (v = .slice none 0 0 ↔ ss = []) ∧ Below w.heap.size w w' := by
  have hsize : Maps.size (toQ L) = L.length := toQ_size L
  rw [← toQ_keys]
  refine (callsIn_wide (n := 5)).1 ?_
  have hbl := hown.lt
  have hseq : SeqGives Fence.wide 2 Try.prog 15 #[.pointer (some ⟨w.heap.size, 0, none⟩)] encStr (fun ss => ss.Perm (strKeys (toQ L))) (Maps.size (toQ L)) (w.alloc (.cells #[.map (some b)] 33)) :=
    AnyZ.keys_gives (ρ := Try.keysA_ren) { Try.keysA with } Fence.wide _ trivial rfl (by omega) w.heap.size b L.length (toQ L) _ (by simp) (by simp) (by
      obtain ⟨es, clock, hb, Ft, hs, hD⟩ := hown
      exact ⟨es, clock, (Below.heap_alloc _ _ b hbl).trans hb, Ft, hs, hD⟩)
  have cS := AnyZ.sorted_in Try.sortedA Fence.wide 5 trivial trivial trivial trivial rfl (by omega) (sortsA _) (enters_of Try.func14 (by kernel_rfl) rfl) 15 #[.pointer (some ⟨w.heap.size, 0, none⟩)] trivial (enters_of Try.func15 (by kernel_rfl) rfl) _ _ (by rw [hsize]; unfold maxLen; omega) (by rw [hsize]; omega) _ hseq
  refine cS.mono ?_
  rintro e w' ⟨v, ss, rfl, hS, hrow, hnil, hb⟩
  exact ⟨v, ss, rfl, hS, ownsRow_base_a hrow (by simp), hnil, ((Below.refl _ w).alloc (Nat.le_refl _) _).trans (hb.mono (by simp))⟩
theorem encStr_kb (s : ByteArray) : encStr (kb s) = .string s := by
  unfold encStr kb
  simp
/-- The keys of the map, rising. -/
theorem keysOf (b : Nat) (L : List Pp) (w : World) (hown : MapQ w b L) (hup : UpP L) (hmax : L.length < 4398046511104) :
    Calls Try.prog 9 #[.func (.func 15) #[] #[.pointer (some ⟨w.heap.size, 0, none⟩)]] (w.alloc (.cells #[.map (some b)] 33)) fun e w' => ∃ (a : Option Addr) (c : Nat), e = .returned (.slice a L.length c) ∧ L.length ≤ c ∧ c ≤ maxLen ∧ Below w.heap.size w w' ∧
      ∀ j, j < L.length → ∃ g, a = some ⟨g, 0, none⟩ ∧ w.heap.size ≤ g ∧ g < w'.heap.size ∧ w'.cell? ⟨g, j, none⟩ = some (.string (L.getD j Pp.zero).key) := by
  refine (sortedOf b L w hown hmax).mono ?_
  rintro e w' ⟨v, ss, rfl, hp, hrow, _, hb⟩
  rw [up_sorted hup hp] at hrow
  have hl : ss.length = L.length := by rw [hp.length_eq, List.length_map]
  obtain ⟨hxl, ⟨rfl, h0⟩ | ⟨g, cap, cur, rfl, hg, hh, h1, h2, h3, h4⟩⟩ := hrow
  · have h0' : L.length = 0 := by omega
    refine ⟨none, 0, by rw [h0'], by omega, by simp [maxLen], hb, fun j hj => by omega⟩
  · refine ⟨some ⟨g, 0, none⟩, cap, by rw [hl], by omega, h2, hb, fun j hj => ⟨g, rfl, hg, (Array.getElem?_eq_some_iff.1 hh).1, ?_⟩⟩
    have hc : w'.cell? ⟨g, j, none⟩ = cur[j]? := by simp [World.cell?, hh]
    rw [hc]
    have h5 : (cur.toList.take (ss.length * 1))[j]? = cur.toList[j]? := List.getElem?_take_of_lt (by omega)
    rw [h4] at h5
    rw [← Array.getElem?_toList, ← h5, List.getElem?_map, List.getElem?_map, List.getElem?_eq_getElem hj]
    simp only [Option.map_some, encStr_kb]
    rw [List.getD_eq_getElem?_getD, List.getElem?_eq_getElem hj]
    rfl
theorem OwnPp.of_made {w : World} {base g cap : Nat} {xs : List Value} (h : w.ownsRow base 29 4 (.slice (some ⟨g, 0, none⟩) 0 cap) 0 xs) : OwnPp w (.slice (some ⟨g, 0, none⟩) 0 cap) [] (some g) := by
  obtain ⟨hl, ⟨h0, _⟩ | ⟨g', cap', cur, e, hb, hh, h1, h2, h3, h4⟩⟩ := h
  · cases h0
  · cases e
    refine .inr ⟨g, cap, rfl, rfl, (Array.getElem?_eq_some_iff.1 hh).1, by simp, h2, fun j hj => ?_, fun j hj => ?_, fun j hj => ?_⟩
    · simp [World.frozen?, hh]
    · simp [World.cell?, hh]; omega
    · simp at hj
end Go.Proofs.Ytpclicimakgpdaa
