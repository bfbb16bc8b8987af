import Derived.Test.YtmhaodcgognhiaaMgg
import Derived.Deep.CutRange
import Derived.BigRegion
/-! merge: what Compact answers; the program's. -/
namespace Go.Proofs.Ytmhaodcgognhiaa
open Go.RowKit Plain Go.WideMaps Go.Maps
set_option linter.unusedVariables false
set_option linter.unusedSimpArgs false

theorem riseF_ix : ∀ (st : List Rc) (a : Int), riseF a st = true → (∀ j, j < st.length → a < (st.getD j Rc.none).o ∧ (st.getD j Rc.none).o < 1099511627776) ∧ ∀ i j, i < j → j < st.length → (st.getD i Rc.none).o < (st.getD j Rc.none).o
  | [], a, _ => ⟨fun j hj => by simp at hj, fun i j _ hj => by simp at hj⟩
  | x :: r, a, h => by
    simp only [riseF, Bool.and_eq_true, decide_eq_true_eq] at h
    obtain ⟨h1, h2, h3⟩ := h
    obtain ⟨i1, i2⟩ := riseF_ix r x.o h3
    refine ⟨fun j hj => ?_, fun i j hij hj => ?_⟩
    · cases j with
      | zero => simpa using ⟨h1, h2⟩
      | succ j =>
        have := i1 j (by simpa using hj)
        rw [show (x :: r).getD (j + 1) Rc.none = r.getD j Rc.none by simp]
        omega
    · cases j with
      | zero => omega
      | succ j =>
        rw [show (x :: r).getD (j + 1) Rc.none = r.getD j Rc.none by simp]
        cases i with
        | zero => have := i1 j (by simpa using hj); simpa using this.1
        | succ i =>
          rw [show (x :: r).getD (i + 1) Rc.none = r.getD i Rc.none by simp]
          exact i2 i j (by omega) (by simpa using hj)

theorem src_recM (W : World) (x : Rc) : Src Try.prog 7 26 (.slice (some ⟨W.heap.size, 0, none⟩) 1 1) [x].length (rcells [x]) (W.alloc (.cells #[.int .i64 x.k, .int .i64 x.o, .int .i64 x.t, .int .i64 x.p, .int .i64 x.q, .string x.key, .string x.val] 33)) :=
  Src.ofSlice _ Try.underlying26 _ 1 1 _ (by rfl) (fun j u hj => by
    rw [WideShapes.add_plain, World.cell?_alloc_at _ _ _ _ rfl, Nat.zero_add, ← hj]
    simp [rcells, Rc.cells]) (by intro u hu; simp [rcells, Rc.cells] at hu; rcases hu with rfl | rfl | rfl | rfl | rfl | rfl | rfl <;> rfl)
theorem ownsMap_laterM {H : Type} {w w' : World} {b n : Nat} {D : DataW H} (h : w.ownsMap Try.prog 9 (plainElem Try.prog 2) b n D) (k : Below w.heap.size w w') : w'.ownsMap Try.prog 9 (plainElem Try.prog 2) b n D :=
  h.kept (below_grow k none) (by simp)

def horM (hz : Int) : Int := if 1099511627776 < hz then 1099511627776 else hz
def keepM (now hz : Int) (x : Rc) : Bool := (x.k != 2) || decide (now < x.t + horM hz)
def mstep (st : List Rc) (now hz : Int) (i : Nat) (r : List Rc × Int) : List Rc × Int :=
  if lastB st i = false then r else if keepM now hz (st.getD i Rc.none) = true then (r.1 ++ [st.getD i Rc.none], r.2) else (r.1, (st.getD i Rc.none).o + 1)
def mcmp (st : List Rc) (now hz : Int) : Nat → List Rc × Int
  | 0 => ([], 0)
  | i + 1 => mstep st now hz i (mcmp st now hz i)
def mcomp (se la : List Rc) (now hz : Int) : List Rc × Int × Int :=
  if riseF (-1) (se ++ la) = false then ([], 0, 51) else if now < 0 ∨ hz < 0 then ([], 0, 3) else ((mcmp (se ++ la) now hz se.length).1, (mcmp (se ++ la) now hz se.length).2, 0)
theorem mstep_skip {st : List Rc} {now hz : Int} {i : Nat} (r : List Rc × Int) (h : lastB st i = false) : mstep st now hz i r = r := by unfold mstep; rw [if_pos h]
theorem mstep_keep {st : List Rc} {now hz : Int} {i : Nat} (r : List Rc × Int) (h : lastB st i = true) (hk : keepM now hz (st.getD i Rc.none) = true) : mstep st now hz i r = (r.1 ++ [st.getD i Rc.none], r.2) := by unfold mstep; rw [if_neg (by simp [h]), if_pos hk]
theorem mstep_mark {st : List Rc} {now hz : Int} {i : Nat} (r : List Rc × Int) (h : lastB st i = true) (hk : keepM now hz (st.getD i Rc.none) = false) : mstep st now hz i r = (r.1, (st.getD i Rc.none).o + 1) := by unfold mstep; rw [if_neg (by simp [h]), if_neg (by rw [hk]; decide)]
theorem mcmp_len (st : List Rc) (now hz : Int) : ∀ i, (mcmp st now hz i).1.length ≤ i
  | 0 => by simp [mcmp]
  | i + 1 => by
    have := mcmp_len st now hz i
    show (mstep st now hz i (mcmp st now hz i)).1.length ≤ i + 1
    unfold mstep
    split
    · omega
    · split
      · simp; omega
      · simp only; omega
theorem mcmp_mem (st : List Rc) (now hz : Int) : ∀ i, i ≤ st.length → ∀ x ∈ (mcmp st now hz i).1, x ∈ st
  | 0, _, x, hx => by simp [mcmp] at hx
  | i + 1, hi, x, hx => by
    have ih := mcmp_mem st now hz i (by omega)
    have hx' : x ∈ (mstep st now hz i (mcmp st now hz i)).1 := hx
    unfold mstep at hx'
    split at hx'
    · exact ih x hx'
    · split at hx'
      · simp only [List.mem_append, List.mem_singleton] at hx'
        rcases hx' with h | rfl
        · exact ih x h
        · rw [List.getD_eq_getElem?_getD, List.getElem?_eq_getElem (by omega)]; exact List.getElem_mem _
      · exact ih x hx'
theorem mcmp_mark (st : List Rc) (now hz : Int) (hr : riseF (-1) st = true) : ∀ i, i ≤ st.length → 0 ≤ (mcmp st now hz i).2 ∧ (∀ j, i ≤ j → j < st.length → (mcmp st now hz i).2 ≤ (st.getD j Rc.none).o) ∧ (mcmp st now hz i).2 ≤ 1099511627776
  | 0, _ => ⟨by simp [mcmp], fun j _ hj => by have := (riseF_ix st _ hr).1 j hj; show (0 : Int) ≤ _; omega, by simp [mcmp]⟩
  | i + 1, hi => by
    have ih := mcmp_mark st now hz hr i (by omega)
    have h1 := (riseF_ix st _ hr).1 i (by omega)
    show 0 ≤ (mstep st now hz i (mcmp st now hz i)).2 ∧ (∀ j, i + 1 ≤ j → j < st.length → (mstep st now hz i (mcmp st now hz i)).2 ≤ (st.getD j Rc.none).o) ∧ (mstep st now hz i (mcmp st now hz i)).2 ≤ 1099511627776
    unfold mstep
    split
    · exact ⟨ih.1, fun j h2 h3 => ih.2.1 j (by omega) h3, ih.2.2⟩
    · split
      · exact ⟨ih.1, fun j h2 h3 => ih.2.1 j (by omega) h3, ih.2.2⟩
      · exact ⟨by simp only; omega, fun j h2 h3 => by have := (riseF_ix st _ hr).2 i j (by omega) h3; simp only; omega, by simp only; omega⟩

def MPost (w : World) (se la : List Rc) (now hz : Int) : Ending → World → Prop := fun e w' =>
  ∃ v r, e = .returned (.tuple #[v, .int .i64 (mcomp se la now hz).2.1, .int .i64 (mcomp se la now hz).2.2]) ∧ OwnR w' v (mcomp se la now hz).1 r ∧ (∀ g, r = some g → w.heap.size ≤ g) ∧ Below w.heap.size w w'
theorem mcomp_bad {se la : List Rc} {now hz : Int} (h : riseF (-1) (se ++ la) = false) : mcomp se la now hz = ([], 0, 51) := by unfold mcomp; rw [if_pos h]
theorem mcomp_arg {se la : List Rc} {now hz : Int} (h : riseF (-1) (se ++ la) = true) (h2 : now < 0 ∨ hz < 0) : mcomp se la now hz = ([], 0, 3) := by unfold mcomp; rw [if_neg (by simp [h]), if_pos h2]
theorem mcomp_ok {se la : List Rc} {now hz : Int} (h : riseF (-1) (se ++ la) = true) (h2 : ¬ (now < 0 ∨ hz < 0)) : mcomp se la now hz = ((mcmp (se ++ la) now hz se.length).1, (mcmp (se ++ la) now hz se.length).2, 0) := by unfold mcomp; rw [if_neg (by simp [h]), if_neg h2]
theorem MPost.no {w w' : World} {se la : List Rc} {now hz c : Int} (h : mcomp se la now hz = ([], 0, c)) (hb : Below w.heap.size w w') : MPost w se la now hz (.returned (.tuple #[.slice none 0 0, .int .i64 0, .int .i64 c])) w' :=
  ⟨_, none, by rw [h], by rw [h]; exact OwnR.nil _, by simp, hb⟩

theorem TwoL.make {w : World} {v0 v1 : Value} {se la : List Rc} (h0 : RecsAt w v0 se) (h1 : RecsAt w v1 la) : TwoL (w.alloc (.cells #[v0, v1] 26)) w.heap.size v0 v1 se la :=
  ⟨by rw [World.cell?_alloc_at _ _ _ _ rfl]; rfl, by rw [World.cell?_alloc_at _ _ _ _ rfl]; rfl, h0.later ((Below.refl _ _).alloc (Nat.le_refl _) _), h1.later ((Below.refl _ _).alloc (Nat.le_refl _) _)⟩

set_option maxHeartbeats 4000000 in
theorem mcompactOf (v0 v1 : Value) (se la : List Rc) (now hz : Int) (hn : I64 now) (hh : I64 hz) (w : World) (h0 : RecsAt w v0 se) (h1 : RecsAt w v1 la) :
    Calls Try.prog 13 #[v0, v1, .int .i64 now, .int .i64 hz] w (MPost w se la now hz) := by
  have HR0 : Hid (RecsAt w v0 se) := h0
  have HR1 : Hid (RecsAt w v1 la) := h1
  obtain ⟨a, cap, rfl, hcl, hok, hcells⟩ := h0
  obtain ⟨a', cap', rfl, -⟩ := h1
  have HC : Hid (se ≠ [] → ∃ b off, a = some ⟨b, off, none⟩ ∧ ∀ j, j < se.length → CellsAt w b (off + j * 7) (se.getD j Rc.none)) := hcells
  have HOK : Hid (∀ x ∈ se, x.Ok) := hok
  unfold I64 at hn hh
  clear hcells hok
  go_enter Try.func13, Try.ntmps13
  go_wp2_with fail
  refine (riseOf _ _ _ se la _ (TwoL.make HR0.out HR1.out)).mono ?_
  rintro e w1 ⟨rfl, hb1⟩
  have HB1 : Hid (Below w.heap.size w w1) := below_on ((Below.refl _ _).alloc (Nat.le_refl _) _) hb1
  clear hb1
  cases hr : riseF (-1) (se ++ la) with
  | false =>
    have HP : Hid (MPost w se la now hz (.returned (.tuple #[.slice none 0 0, .int .i64 0, .int .i64 51])) w1) := MPost.no (mcomp_bad hr) HB1.out
    go_wp2
    go_ret3
    exact HP.out
  | true =>
    by_cases hn0 : now < 0
    · have HP : Hid (MPost w se la now hz (.returned (.tuple #[.slice none 0 0, .int .i64 0, .int .i64 3])) w1) := MPost.no (mcomp_arg hr (.inl hn0)) HB1.out
      go_wp2
      go_ret3
      exact HP.out
    by_cases hh0 : hz < 0
    · have HP : Hid (MPost w se la now hz (.returned (.tuple #[.slice none 0 0, .int .i64 0, .int .i64 3])) w1) := MPost.no (mcomp_arg hr (.inr hh0)) HB1.out
      go_wp2
      go_ret3
      exact HP.out
    have HE : Hid (mcomp se la now hz = ((mcmp (se ++ la) now hz se.length).1, (mcmp (se ++ la) now hz se.length).2, 0)) := mcomp_ok hr (by omega)
    have HRS : Hid (riseF (-1) (se ++ la) = true) := hr
    obtain ⟨Hz, hHz⟩ : ∃ Hz, horM hz = Hz := ⟨_, rfl⟩
    have hHzb : 0 ≤ Hz ∧ Hz ≤ 1099511627776 := by rw [← hHz]; unfold horM; split <;> omega
    have HMIN : Hid ((if (1099511627776 : Int) < hz then 1099511627776 else hz) = Hz) := hHz
    have HHZ : Hid (horM hz = Hz) := hHz
    have hwo : wrap64 (now - Hz) = now - Hz := by unfold wrap64; omega
    have hd1 : decide (now < 0) = false := by simp; omega
    have hd2 : decide (hz < 0) = false := by simp; omega
    clear hHz hr
    go_wp2_with (first | refine wpList_mnN (by with_reducible rfl) _ _ 2 2 _ _ _ (by with_reducible rfl) (by rfl) (by rfl) HMIN.out ?_ | fail)
    refine (lastOffsOf (H := Unit) _ _ _ se la _ (TwoL.make (HR0.out.later HB1.out) (HR1.out.later HB1.out))).mono ?_
    rintro e w2 ⟨rfl, ⟨D, hD, hLD⟩, hb2⟩
    obtain ⟨gm, hgm⟩ : ∃ g, (w1.alloc (.cells #[.slice a se.length cap, .slice a' la.length cap'] 26)).heap.size = g := ⟨_, rfl⟩
    rw [hgm] at hD ⊢
    have HD : Hid (w2.ownsMap Try.prog 9 (plainElem Try.prog 2) gm (se ++ la).length D) := hD
    have HL : Hid (LastO (se ++ la) (se ++ la).length D) := hLD
    have HB2 : Hid (Below w.heap.size w w2) := below_on HB1.out (below_on ((Below.refl _ _).alloc (Nat.le_refl _) _) hb2)
    clear hD hLD hb2 hgm
    go_wp2
    clear hd1 hd2
    go_loopw [13, 14, 38] (fun s13 s14 s38 wr => ∃ (k : Nat) (q : Option Nat) (a9 : Option Addr) (n9 c9 : Nat), k ≤ se.length ∧ s38 = .int .i64 k ∧ s13 = .slice a9 n9 c9 ∧ s14 = .int .i64 (mcmp (se ++ la) now hz k).2 ∧ OwnR wr (.slice a9 n9 c9) (mcmp (se ++ la) now hz k).1 q ∧ (∀ g, q = some g → w2.heap.size ≤ g) ∧ Below w2.heap.size w2 wr) (fun _ _ i _ => se.length - (intOf i).toNat)
    case atStart => exact ⟨0, none, none, 0, 0, by omega, rfl, rfl, rfl, OwnR.nil _, by simp, Below.refl _ _⟩
    case round =>
      obtain ⟨k, q, a9, n9, c9, hk, rfl, rfl, rfl, hown, hq, hbl⟩ := hrel
      have HO : Hid (OwnR wr (.slice a9 n9 c9) (mcmp (se ++ la) now hz k).1 q) := hown
      have HQ : Hid (∀ g, q = some g → w2.heap.size ≤ g) := hq
      have HBL : Hid (Below w2.heap.size w2 wr) := hbl
      have HBW : Hid (Below w.heap.size w wr) := below_on HB2.out hbl
      have HMP : Hid (wr.ownsMap Try.prog 9 (plainElem Try.prog 2) gm (se ++ la).length D) := ownsMap_laterM HD.out hbl
      have HLEN : Hid ((mcmp (se ++ la) now hz k).1.length ≤ k) := mcmp_len _ now hz k
      clear hown hq hbl
      by_cases hlt : k < se.length
      · have hlt2 : k < (se ++ la).length := by simp; omega
        have hgd : (se ++ la).getD k Rc.none = se.getD k Rc.none := by simp [List.getElem?_append_left hlt]
        have hne : se ≠ [] := by rintro rfl; simp at hlt
        obtain ⟨b, off, rfl, hc⟩ := HC.out hne
        have hck := hc k hlt
        have hck' := hck.block (HBW.out.block b hck.lt)
        have hmem : se.getD k Rc.none ∈ se := by rw [List.getD_eq_getElem?_getD, List.getElem?_eq_getElem hlt]; exact List.getElem_mem _
        have hkey : keyOf Try.prog 9 (.string (se.getD k Rc.none).key) = some (klit (se.getD k Rc.none).key) := keyOf_string_mk Try.underlying9 (HOK.out _ hmem).key
        have hro := (riseF_ix _ _ HRS.out).1 k hlt2
        have HFD : Hid (∀ c : Int, D.atKey (klit (se.getD k Rc.none).key) (.lit (.int .i64 0)) = .lit (.int .i64 c) → (c == (se.getD k Rc.none).o) = lastB (se ++ la) k) := fun c hc => by
          have := HL.out.found (riseF_ix _ _ HRS.out).2 hlt2 (c := c) (by unfold rk; rw [hgd]; exact hc)
          rwa [hgd] at this
        have HS0 : Hid (lastB (se ++ la) k = false → mcmp (se ++ la) now hz (k + 1) = mcmp (se ++ la) now hz k) := fun h => mstep_skip _ h
        have HS1 : Hid (lastB (se ++ la) k = true → keepM now hz (se.getD k Rc.none) = true → mcmp (se ++ la) now hz (k + 1) = ((mcmp (se ++ la) now hz k).1 ++ [se.getD k Rc.none], (mcmp (se ++ la) now hz k).2)) := fun h h' => by rw [← hgd]; exact mstep_keep _ h (by rw [hgd]; exact h')
        have HS2 : Hid (lastB (se ++ la) k = true → keepM now hz (se.getD k Rc.none) = false → mcmp (se ++ la) now hz (k + 1) = ((mcmp (se ++ la) now hz k).1, (se.getD k Rc.none).o + 1)) := fun h h' => by rw [← hgd]; exact mstep_mark _ h (by rw [hgd]; exact h')
        have HKP : Hid (keepM now hz (se.getD k Rc.none) = ((se.getD k Rc.none).k != 2 || decide (now < (se.getD k Rc.none).t + Hz))) := by unfold Hid keepM; rw [HHZ.out]
        rw [hgd] at hro
        have hxt := (HOK.out _ hmem).t
        generalize se.getD k Rc.none = x at hck' hkey HFD HS1 HS2 HKP hro hxt
        obtain ⟨xk, xo, xt, xp, xq, xkey, xval⟩ := x
        obtain ⟨c0, c1, c2, c3, c4, c5, c6⟩ := hck'
        simp only at c0 c1 c2 c3 c4 c5 c6 hkey HFD HS2 HKP hro hxt
        unfold I64 at hxt
        have hoff : wrap64 (xo + 1) = xo + 1 := by unfold wrap64; omega
        clear hck hc hne hmem hgd hlt2
        have HBA : Hid (Below w2.heap.size w2 (wr.alloc (.cells #[.int .i64 xk, .int .i64 xo, .int .i64 xt, .int .i64 xp, .int .i64 xq, .string xkey, .string xval] 33))) := HBL.out.alloc HBL.out.size _
        generalize hM : (mcmp (se ++ la) now hz k).2 = M at HS1 HS2
        cases hlb : lastB (se ++ la) k with
        | false =>
          have HN1 : Hid (mcmp (se ++ la) now hz (k + 1) = mcmp (se ++ la) now hz k) := HS0.out hlb
          clear HS0 HS1 HS2 HKP
          go_wp2_with (at_lookup; refine wpList_lookup_own_int _ rfl _ _ 42 rfl 9 2 .i64 klaw Try.underlying42 Try.underlying2 (kzero2 _) gm (se ++ la).length _ rfl (HMP.out.alloc _) _ _ rfl hkey ?_)
          intro c hat hwc
          have hcne : (c != xo) = true := by have := HFD.out c hat; rw [hlb] at this; simpa using this
          clear hat hwc
          go_wp2
          go_roundw
          case rel => exact ⟨k + 1, q, a9, n9, c9, by omega, by go_num, rfl, by rw [HN1.out, hM], by rw [HN1.out]; exact HO.out.later ((Below.refl _ _).alloc (Nat.le_refl _) _), HQ.out, HBA.out⟩
          case measure => simp [intOf]; omega
        | true =>
          cases hkp : keepM now hz ⟨xk, xo, xt, xp, xq, xkey, xval⟩ with
          | true =>
            have HN1 : Hid (mcmp (se ++ la) now hz (k + 1) = ((mcmp (se ++ la) now hz k).1 ++ [⟨xk, xo, xt, xp, xq, xkey, xval⟩], M)) := HS1.out hlb hkp
            have hcase : (xk != 2) = true ∨ ((xk = 2) ∧ xt > now - Hz) := by
              have h1 := HKP.out
              rw [hkp] at h1
              by_cases h2 : xk = 2
              · subst h2; simp at h1; exact .inr ⟨rfl, by omega⟩
              · exact .inl (by simpa using h2)
            clear HS0 HS1 HS2 HKP
            rcases hcase with hk2 | ⟨rfl, hyo⟩
            · go_wp2_with (at_lookup; refine wpList_lookup_own_int _ rfl _ _ 42 rfl 9 2 .i64 klaw Try.underlying42 Try.underlying2 (kzero2 _) gm (se ++ la).length _ rfl (HMP.out.alloc _) _ _ rfl hkey ?_)
              intro c hat hwc
              obtain rfl : c = xo := by have := HFD.out c hat; rw [hlb] at this; simpa using this
              clear hat hwc
              go_wp2_with (at_builtin; refine wpList_append_recs _ rfl _ _ rfl _ _ (mcmp (se ++ la) now hz k).1 [⟨xk, c, xt, xp, xq, xkey, xval⟩] q rfl rfl ?hOwn ?hSrc ?hLen ?hR ?_)
              case hOwn => exact HO.out.later (((Below.refl _ _).alloc (Nat.le_refl _) _).alloc (by simp) _)
              case hSrc =>
                have := src_recM (wr.alloc (.cells #[.int .i64 xk, .int .i64 c, .int .i64 xt, .int .i64 xp, .int .i64 xq, .string xkey, .string xval] 33)) ⟨xk, c, xt, xp, xq, xkey, xval⟩
                rw [show (wr.alloc (.cells #[.int .i64 xk, .int .i64 c, .int .i64 xt, .int .i64 xp, .int .i64 xq, .string xkey, .string xval] 33)).heap.size = wr.heap.size + 1 by simp] at this
                exact this
              case hLen => have := HLEN.out; simp; omega
              case hR => exact .inr (by simp)
              intro v' w3 g3 ho3 hg3 hr3
              obtain ⟨a3, c3', rfl, -, -⟩ := ho3.shape
              have HO3 : Hid (OwnR w3 (.slice a3 ((mcmp (se ++ la) now hz k).1 ++ [(⟨xk, c, xt, xp, xq, xkey, xval⟩ : Rc)]).length c3') (mcmp (se ++ la) now hz (k + 1)).1 (some g3)) := by unfold Hid; rw [HN1.out]; exact ho3
              have HQ3 : Hid (w2.heap.size ≤ g3) := by
                have h1 := HBL.out.size
                unfold Hid
                rcases hr3 with e | rfl
                · exact HQ.out g3 e.symm
                · simp; omega
              have HB3 : Hid (Below w2.heap.size w2 w3) := (HBA.out.alloc HBA.out.size _).trans (grow_below hg3 (by have := HBL.out.size; simp; omega) HQ.out)
              have HM1 : Hid ((mcmp (se ++ la) now hz (k + 1)).2 = M) := by unfold Hid; rw [HN1.out]
              generalize ((mcmp (se ++ la) now hz k).1 ++ [(⟨xk, c, xt, xp, xq, xkey, xval⟩ : Rc)]).length = n3 at HO3 ⊢
              clear ho3 hg3 hr3
              go_wp2
              go_roundw
              case rel => exact ⟨k + 1, some g3, a3, n3, c3', by omega, by go_num, rfl, by rw [HM1.out], HO3.out, fun g hg => by simp at hg; have := HQ3.out; omega, HB3.out⟩
              case measure => simp [intOf]; omega
            · go_wp2_with (at_lookup; refine wpList_lookup_own_int _ rfl _ _ 42 rfl 9 2 .i64 klaw Try.underlying42 Try.underlying2 (kzero2 _) gm (se ++ la).length _ rfl (HMP.out.alloc _) _ _ rfl hkey ?_)
              intro c hat hwc
              obtain rfl : c = xo := by have := HFD.out c hat; rw [hlb] at this; simpa using this
              clear hat hwc
              go_wp2_with (at_builtin; refine wpList_append_recs _ rfl _ _ rfl _ _ (mcmp (se ++ la) now hz k).1 [⟨2, c, xt, xp, xq, xkey, xval⟩] q rfl rfl ?hOwn ?hSrc ?hLen ?hR ?_)
              case hOwn => exact HO.out.later (((Below.refl _ _).alloc (Nat.le_refl _) _).alloc (by simp) _)
              case hSrc =>
                have := src_recM (wr.alloc (.cells #[.int .i64 2, .int .i64 c, .int .i64 xt, .int .i64 xp, .int .i64 xq, .string xkey, .string xval] 33)) ⟨2, c, xt, xp, xq, xkey, xval⟩
                rw [show (wr.alloc (.cells #[.int .i64 2, .int .i64 c, .int .i64 xt, .int .i64 xp, .int .i64 xq, .string xkey, .string xval] 33)).heap.size = wr.heap.size + 1 by simp] at this
                exact this
              case hLen => have := HLEN.out; simp; omega
              case hR => exact .inr (by simp)
              intro v' w3 g3 ho3 hg3 hr3
              obtain ⟨a3, c3', rfl, -, -⟩ := ho3.shape
              have HO3 : Hid (OwnR w3 (.slice a3 ((mcmp (se ++ la) now hz k).1 ++ [(⟨2, c, xt, xp, xq, xkey, xval⟩ : Rc)]).length c3') (mcmp (se ++ la) now hz (k + 1)).1 (some g3)) := by unfold Hid; rw [HN1.out]; exact ho3
              have HQ3 : Hid (w2.heap.size ≤ g3) := by
                have h1 := HBL.out.size
                unfold Hid
                rcases hr3 with e | rfl
                · exact HQ.out g3 e.symm
                · simp; omega
              have HB3 : Hid (Below w2.heap.size w2 w3) := (HBA.out.alloc HBA.out.size _).trans (grow_below hg3 (by have := HBL.out.size; simp; omega) HQ.out)
              have HM1 : Hid ((mcmp (se ++ la) now hz (k + 1)).2 = M) := by unfold Hid; rw [HN1.out]
              generalize ((mcmp (se ++ la) now hz k).1 ++ [(⟨2, c, xt, xp, xq, xkey, xval⟩ : Rc)]).length = n3 at HO3 ⊢
              clear ho3 hg3 hr3
              go_wp2
              go_roundw
              case rel => exact ⟨k + 1, some g3, a3, n3, c3', by omega, by go_num, rfl, by rw [HM1.out], HO3.out, fun g hg => by simp at hg; have := HQ3.out; omega, HB3.out⟩
              case measure => simp [intOf]; omega
          | false =>
            have HN1 : Hid (mcmp (se ++ la) now hz (k + 1) = ((mcmp (se ++ la) now hz k).1, xo + 1)) := HS2.out hlb hkp
            have hcase : xk = 2 ∧ ¬ xt > now - Hz := by
              have h1 := HKP.out
              rw [hkp] at h1
              by_cases h2 : xk = 2
              · subst h2; simp at h1; exact ⟨rfl, by omega⟩
              · rw [show (xk != 2) = true by simpa using h2] at h1; simp at h1
            obtain ⟨rfl, hyo⟩ := hcase
            clear HS0 HS1 HS2 HKP
            go_wp2_with (at_lookup; refine wpList_lookup_own_int _ rfl _ _ 42 rfl 9 2 .i64 klaw Try.underlying42 Try.underlying2 (kzero2 _) gm (se ++ la).length _ rfl (HMP.out.alloc _) _ _ rfl hkey ?_)
            intro c hat hwc
            obtain rfl : c = xo := by have := HFD.out c hat; rw [hlb] at this; simpa using this
            clear hat hwc
            go_wp2
            go_roundw
            case rel => exact ⟨k + 1, q, a9, n9, c9, by omega, by go_num, rfl, by rw [HN1.out], by rw [HN1.out]; exact HO.out.later ((Below.refl _ _).alloc (Nat.le_refl _) _), HQ.out, HBA.out⟩
            case measure => simp [intOf]; omega
      · obtain rfl : k = se.length := by omega
        have HF2 : Hid (mcomp se la now hz = ((mcmp (se ++ la) now hz se.length).1, (mcmp (se ++ la) now hz se.length).2, 0)) := HE.out
        clear HC
        go_wp2
        go_ret3
        exact ⟨_, q, by rw [HF2.out]; rfl, by rw [HF2.out]; exact HO.out, fun g hg => by have := HQ.out g hg; have := HB2.out.size; omega, HBW.out⟩
end Go.Proofs.Ytmhaodcgognhiaa
