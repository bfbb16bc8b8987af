import Derived.Test.YtbngedfpojnbjabStep3
namespace Go.Proofs.Ytbngedfpojnbjab
open Go.RowKit Plain
set_option linter.unusedVariables false

structure St where
  k : Int
  n : Nat
  s : ByteArray
/-- What stands where there is no step. -/
def St.none : St := ⟨0, 0, ByteArray.empty⟩

/-- v is a slice of steps that reads as st. -/
def StepsAt (w : World) (v : Value) (st : List St) : Prop :=
  ∃ a cap, v = .slice a st.length cap ∧ st.length ≤ maxLen ∧ (∀ x ∈ st, x.n < 18446744073709551616 ∧ x.s.size < 18446744073709551616) ∧
    (st ≠ [] → ∃ b off, a = some ⟨b, off, none⟩ ∧ ∀ j, j < st.length → w.cell? ⟨b, off + j * 3, none⟩ = some (.int .i64 (st.getD j St.none).k) ∧ w.cell? ⟨b, off + j * 3 + 1, none⟩ = some (.int .u64 ((st.getD j St.none).n : Int)) ∧ w.cell? ⟨b, off + j * 3 + 2, none⟩ = some (.string (st.getD j St.none).s))

def dataOf : List St → List Nat
  | [] => []
  | x :: r => stepBytes x.k x.n x.s ++ dataOf r
def loadOf : List St → Nat
  | [] => 0
  | x :: r => x.s.size + 10 + loadOf r

theorem step_len (k : Int) (n : Nat) (s : ByteArray) (hn : n < 18446744073709551616) (hs : s.size < 18446744073709551616) : (stepBytes k n s).length ≤ s.size + 10 := by
  unfold stepBytes
  have h1 := uv_len10 (show n < 2 ^ 64 from hn)
  have hz := zz_range (wrap64 n) (wrap64_range n).1 (wrap64_range n).2
  have h2 := uv_len10 (v := (zz (wrap64 n)).toNat) (by omega)
  have h3 := be_len (n % 4294967296) 4
  have h4 := be_len n 8
  have h5 := bytesOf_len s
  split
  · simp
  split
  · omega
  split
  · omega
  split
  · omega
  split
  · omega
  split
  · rw [List.length_append]
    have := uv_len10 (v := s.size) (by omega)
    omega
  split
  · omega
  · simp

theorem dataOf_snoc (st : List St) (x : St) : dataOf (st ++ [x]) = dataOf st ++ stepBytes x.k x.n x.s := by
  induction st with
  | nil => simp [dataOf]
  | cons y r ih => simp [dataOf, ih]
theorem take_snoc_st (st : List St) (j : Nat) (h : j < st.length) : st.take (j + 1) = st.take j ++ [st.getD j St.none] := by
  rw [List.take_succ_eq_append_getElem h]
  simp [h]
theorem data_load (st : List St) (j : Nat) (hn : ∀ x ∈ st, x.n < 18446744073709551616 ∧ x.s.size < 18446744073709551616) (h : j < st.length) : (dataOf (st.take j)).length + (st.getD j St.none).s.size + 10 ≤ loadOf st := by
  induction st generalizing j with
  | nil => simp at h
  | cons y r ih =>
    cases j with
    | zero => simp [dataOf, loadOf]
    | succ j =>
      have := ih j (fun x hx => hn x (by simp [hx])) (by simpa using h)
      have hl := step_len y.k y.n y.s (hn y (by simp)).1 (hn y (by simp)).2
      simp [dataOf, loadOf]
      simp at this
      omega

theorem data_all (st : List St) (hn : ∀ x ∈ st, x.n < 18446744073709551616 ∧ x.s.size < 18446744073709551616) : (dataOf st).length ≤ loadOf st := by
  induction st with
  | nil => simp [dataOf, loadOf]
  | cons y r ih =>
    have := ih (fun x hx => hn x (by simp [hx]))
    have hl := step_len y.k y.n y.s (hn y (by simp)).1 (hn y (by simp)).2
    simp [dataOf, loadOf]
    omega

theorem TwoPost.apart {w w1 : World} {b1 b2 b3 b4 : Nat} {d e : List Nat} {r1 r2 r3 r4 : Option Nat} (p : TwoPost w w1 b1 b2 e r1 r2) (h : Two w b3 b4 d r3 r4) (ha : ∀ k, foot b1 b2 r1 r2 k → ¬ foot b3 b4 r3 r4 k) :
    Two w1 b3 b4 d r3 r4 ∧ ∃ r1' r2', Two w1 b1 b2 e r1' r2' ∧ (∀ k, foot b1 b2 r1' r2' k → ¬ foot b3 b4 r3 r4 k) ∧ KeptS w w1 (foot b1 b2 r1 r2) ∧ isNew w r1' r1 ∧ isNew w r2' r2 := by
  obtain ⟨r1', r2', q1, q2, q3, q4⟩ := p
  have hlt : ∀ k, foot b3 b4 r3 r4 k → k < w.heap.size := by
    rintro k (rfl | rfl | e | e)
    · exact h.a.lt
    · exact h.b.lt
    · subst e; exact h.a.row_lt
    · subst e; exact h.b.row_lt
  have hk : ∀ k, foot b3 b4 r3 r4 k → w1.heap[k]? = w.heap[k]? := fun k hf => q2.block k (hlt k hf) (fun hS => ha k hS hf)
  refine ⟨⟨h.a.kept q2.size (hk b3 (.inl rfl)) (fun g hg => hk g (.inr (.inr (.inl hg.symm)))), h.b.kept q2.size (hk b4 (.inr (.inl rfl))) (fun g hg => hk g (.inr (.inr (.inr hg.symm)))), h.ne, h.n1, h.n2, h.n3⟩, r1', r2', q1, ?_, q2, q3, q4⟩
  rintro k (rfl | rfl | e | e) hf
  · exact ha _ (.inl rfl) hf
  · exact ha _ (.inr (.inl rfl)) hf
  · rcases q3 with h1 | ⟨g, h1, hg⟩
    · exact ha k (.inr (.inr (.inl (by rw [e, h1])))) hf
    · have := hlt k hf
      rw [h1] at e; simp at e; omega
  · rcases q4 with h1 | ⟨g, h1, hg⟩
    · exact ha k (.inr (.inr (.inr (by rw [e, h1])))) hf
    · have := hlt k hf
      rw [h1] at e; simp at e; omega

theorem newW (w : World) : Calls Try.prog 22 #[] w fun e w' => e = .returned (.pointer (some ⟨w.heap.size, 0, none⟩)) ∧ w' = w.alloc (.cells #[.slice none 0 0] 46) := by
  go_enter Try.func22, Try.ntmps22
  go_wp2
  go_ret
  exact ⟨rfl, rfl⟩
theorem newV (w : World) : Calls Try.prog 23 #[] w fun e w' => e = .returned (.pointer (some ⟨w.heap.size, 0, none⟩)) ∧ w' = w.alloc (.cells #[.slice none 0 0] 54) := by
  go_enter Try.func23, Try.ntmps23
  go_wp2
  go_ret
  exact ⟨rfl, rfl⟩
theorem wat_new (w : World) (t : TypeId) : WAt (w.alloc (.cells #[.slice none 0 0] t)) w.heap.size [] none :=
  ⟨.slice none 0 0, by rw [World.cell?_alloc_at _ _ _ _ rfl]; rfl, World.frozen?_alloc_at _ _ _ _ rfl, Own.nil _, by simp⟩

/-- Both pairs, apart. -/
structure Four (w0 w : World) (B : Nat) (d : List Nat) (r1 r2 r3 r4 : Option Nat) : Prop where
  a : Two w B (B + 2) d r1 r2
  b : Two w (B + 1) (B + 3) d r3 r4
  ap : ∀ k, foot B (B + 2) r1 r2 k → ¬ foot (B + 1) (B + 3) r3 r4 k
  lo : ∀ k, foot B (B + 2) r1 r2 k ∨ foot (B + 1) (B + 3) r3 r4 k → B ≤ k
  bl : Below B w0 w

theorem isNew.le {w : World} {r' r : Option Nat} {B : Nat} (h : isNew w r' r) (hB : B ≤ w.heap.size) (hr : ∀ g, r = some g → B ≤ g) : ∀ g, r' = some g → B ≤ g := by
  intro g hg
  rcases h with rfl | ⟨x, rfl, hx⟩
  · exact hr g hg
  · simp at hg; omega

theorem Four.first {w0 w w1 : World} {B : Nat} {d e : List Nat} {r1 r2 r3 r4 : Option Nat} (h : Four w0 w B d r1 r2 r3 r4) (p : TwoPost w w1 B (B + 2) e r1 r2) :
    Two w1 (B + 1) (B + 3) d r3 r4 ∧ ∃ r1' r2', Two w1 B (B + 2) e r1' r2' ∧ (∀ k, foot B (B + 2) r1' r2' k → ¬ foot (B + 1) (B + 3) r3 r4 k) ∧ (∀ k, foot B (B + 2) r1' r2' k → B ≤ k) ∧ Below B w0 w1 := by
  obtain ⟨h1, r1', r2', h2, h3, h4, h5, h6⟩ := p.apart h.b h.ap
  have hB : B ≤ w.heap.size := Nat.le_of_lt h.a.a.lt
  refine ⟨h1, r1', r2', h2, h3, ?_, h.bl.trans ⟨h4.os, h4.tape, h4.output, h4.size, fun k hk => h4.block k (by omega) (fun hS => by have := h.lo k (.inl hS); omega)⟩⟩
  rintro k (rfl | rfl | e | e)
  · omega
  · omega
  · exact h5.le hB (fun g hg => h.lo g (.inl (.inr (.inr (.inl hg.symm))))) k e.symm
  · exact h6.le hB (fun g hg => h.lo g (.inl (.inr (.inr (.inr hg.symm))))) k e.symm

theorem Four.second {w0 w w1 : World} {B : Nat} {d e : List Nat} {r1 r2 r3 r4 : Option Nat} (ha : Two w B (B + 2) e r1 r2) (hb : Two w (B + 1) (B + 3) d r3 r4) (hap : ∀ k, foot B (B + 2) r1 r2 k → ¬ foot (B + 1) (B + 3) r3 r4 k)
    (hlo : ∀ k, foot B (B + 2) r1 r2 k → B ≤ k) (hlo2 : ∀ k, foot (B + 1) (B + 3) r3 r4 k → B ≤ k) (hbl : Below B w0 w) (p : TwoPost w w1 (B + 1) (B + 3) e r3 r4) : ∃ r3' r4', Four w0 w1 B e r1 r2 r3' r4' := by
  obtain ⟨h1, r3', r4', h2, h3, h4, h5, h6⟩ := p.apart ha (fun k hk hk2 => hap k hk2 hk)
  have hB : B ≤ w.heap.size := Nat.le_of_lt ha.a.lt
  refine ⟨r3', r4', ⟨h1, h2, fun k hk hk2 => h3 k hk2 hk, ?_, hbl.trans ⟨h4.os, h4.tape, h4.output, h4.size, fun k hk => h4.block k (by omega) (fun hS => by have := hlo2 k hS; omega)⟩⟩⟩
  rintro k (hk | hk)
  · exact hlo k hk
  · rcases hk with rfl | rfl | e | e
    · omega
    · omega
    · exact h5.le hB (fun g hg => hlo2 g (.inr (.inr (.inl hg.symm)))) k e.symm
    · exact h6.le hB (fun g hg => hlo2 g (.inr (.inr (.inr hg.symm)))) k e.symm

theorem Four.later {w0 w w1 : World} {B : Nat} {d : List Nat} {r1 r2 r3 r4 : Option Nat} (h : Four w0 w B d r1 r2 r3 r4) (hb : Below w.heap.size w w1) : Four w0 w1 B d r1 r2 r3 r4 :=
  ⟨h.a.later hb, h.b.later hb, h.ap, h.lo, h.bl.trans (hb.mono (Nat.le_of_lt h.a.a.lt))⟩

theorem four_new (w : World) : Four w ((((w.alloc (.cells #[.slice none 0 0] 46)).alloc (.cells #[.slice none 0 0] 46)).alloc (.cells #[.slice none 0 0] 54)).alloc (.cells #[.slice none 0 0] 54)) w.heap.size [] none none none none := by
  have b1 := (Below.refl (w.alloc (.cells #[.slice none 0 0] 46)).heap.size (w.alloc (.cells #[.slice none 0 0] 46))).alloc (Nat.le_refl _) (.cells #[.slice none 0 0] 46)
  have a1 : WAt _ w.heap.size [] none := (wat_new w 46).later b1
  have a2 : WAt ((w.alloc (.cells #[.slice none 0 0] 46)).alloc (.cells #[.slice none 0 0] 46)) (w.heap.size + 1) [] none := by simpa using wat_new (w.alloc (.cells #[.slice none 0 0] 46)) 46
  have b2 := (Below.refl ((w.alloc (.cells #[.slice none 0 0] 46)).alloc (.cells #[.slice none 0 0] 46)).heap.size ((w.alloc (.cells #[.slice none 0 0] 46)).alloc (.cells #[.slice none 0 0] 46))).alloc (Nat.le_refl _) (.cells #[.slice none 0 0] 54)
  have a3 : WAt (((w.alloc (.cells #[.slice none 0 0] 46)).alloc (.cells #[.slice none 0 0] 46)).alloc (.cells #[.slice none 0 0] 54)) (w.heap.size + 2) [] none := by simpa using wat_new ((w.alloc (.cells #[.slice none 0 0] 46)).alloc (.cells #[.slice none 0 0] 46)) 54
  have b3 := (Below.refl (((w.alloc (.cells #[.slice none 0 0] 46)).alloc (.cells #[.slice none 0 0] 46)).alloc (.cells #[.slice none 0 0] 54)).heap.size (((w.alloc (.cells #[.slice none 0 0] 46)).alloc (.cells #[.slice none 0 0] 46)).alloc (.cells #[.slice none 0 0] 54))).alloc (Nat.le_refl _) (.cells #[.slice none 0 0] 54)
  have a4 : WAt ((((w.alloc (.cells #[.slice none 0 0] 46)).alloc (.cells #[.slice none 0 0] 46)).alloc (.cells #[.slice none 0 0] 54)).alloc (.cells #[.slice none 0 0] 54)) (w.heap.size + 3) [] none := by simpa using wat_new (((w.alloc (.cells #[.slice none 0 0] 46)).alloc (.cells #[.slice none 0 0] 46)).alloc (.cells #[.slice none 0 0] 54)) 54
  refine ⟨⟨(a1.later b2).later b3, a3.later b3, by omega, by simp, by simp, by simp⟩, ⟨(a2.later b2).later b3, a4, by omega, by simp, by simp, by simp⟩, ?_, ?_, ?_⟩
  · rintro k (rfl | rfl | e | e) (e2 | e2 | e2 | e2) <;> first | omega | simp at e | simp at e2
  · rintro k ((rfl | rfl | e | e) | (rfl | rfl | e | e)) <;> first | omega | simp at e
  · exact ((((Below.refl _ _).alloc (Nat.le_refl _) _).alloc (by simp) _).alloc (by simp; omega) _).alloc (by simp; omega) _

set_option maxHeartbeats 1000000 in
set_option maxRecDepth 1000000 in
theorem writerWalk (vs : Value) (st : List St) (w : World) (hst : StepsAt w vs st) (hload : loadOf st ≤ 140737488351232) :
    Calls Try.prog 6 #[vs] w fun e w' => e = .returned (.bool true) ∧ Below w.heap.size w w' := by
  obtain ⟨a, cap, rfl, hsm, hsn, hcells⟩ := hst
  unfold maxLen at hsm
  have HC : Hid (st ≠ [] → ∃ b off, a = some ⟨b, off, none⟩ ∧ ∀ j, j < st.length → w.cell? ⟨b, off + j * 3, none⟩ = some (.int .i64 (st.getD j St.none).k) ∧ w.cell? ⟨b, off + j * 3 + 1, none⟩ = some (.int .u64 ((st.getD j St.none).n : Int)) ∧ w.cell? ⟨b, off + j * 3 + 2, none⟩ = some (.string (st.getD j St.none).s)) := hcells
  have HSN : Hid (∀ x ∈ st, x.n < 18446744073709551616 ∧ x.s.size < 18446744073709551616) := hsn
  clear hsn hcells
  go_enter Try.func6, Try.ntmps6
  go_wp2_with fail
  refine (newW w).mono ?_
  rintro e w1 ⟨rfl, rfl⟩
  go_wp2_with fail
  refine (newV _).mono ?_
  rintro e w2 ⟨rfl, rfl⟩
  go_wp2_with fail
  refine (newV _).mono ?_
  rintro e w3 ⟨rfl, rfl⟩
  have HF0 : Hid _ := four_new w
  go_wp2
  go_loopw [8] (fun i wr => ∃ (k : Nat) (r1 r2 r3 r4 : Option Nat), k ≤ st.length ∧ i = .int .i64 k ∧ Four w wr w.heap.size (dataOf (st.take k)) r1 r2 r3 r4) (fun i _ => st.length - (intOf i).toNat)
  case atStart => exact ⟨0, none, none, none, none, by omega, rfl, HF0.out⟩
  case round =>
    obtain ⟨k, r1, r2, r3, r4, hk, rfl, hf⟩ := hrel
    have HF : Hid (Four w wr w.heap.size (dataOf (st.take k)) r1 r2 r3 r4) := hf
    clear hf HF0
    by_cases hlt : k < st.length
    · have hne : st ≠ [] := by rintro rfl; simp at hlt
      obtain ⟨b, off, rfl, hc⟩ := HC.out hne
      obtain ⟨c0, c1, c2⟩ := hc k hlt
      have HD : Hid (dataOf (st.take (k + 1)) = dataOf (st.take k) ++ stepBytes (st.getD k St.none).k (st.getD k St.none).n (st.getD k St.none).s) := by unfold Hid; rw [take_snoc_st st k hlt, dataOf_snoc]
      have HL : Hid ((dataOf (st.take k)).length + (st.getD k St.none).s.size + 10 ≤ 140737488351232) := Nat.le_trans (data_load st k HSN.out hlt) hload
      have HN : Hid ((st.getD k St.none).n < 18446744073709551616) := (HSN.out _ (by simp [hlt])).1
      generalize st.getD k St.none = x at c0 c1 c2 HD HL HN
      obtain ⟨xk, xn, xs⟩ := x
      have HCL : Hid (∀ wx, Below w.heap.size w wx → wx.cell? ⟨b, off + k * 3, none⟩ = some (.int .i64 xk) ∧ wx.cell? ⟨b, off + k * 3 + 1, none⟩ = some (.int .u64 (xn : Int)) ∧ wx.cell? ⟨b, off + k * 3 + 2, none⟩ = some (.string xs)) := fun wx hb =>
        ⟨by rw [hb.cell (p := ⟨b, _, none⟩) (cell_lt c0)]; exact c0, by rw [hb.cell (p := ⟨b, _, none⟩) (cell_lt c1)]; exact c1, by rw [hb.cell (p := ⟨b, _, none⟩) (cell_lt c2)]; exact c2⟩
      clear c0 c1 c2 hc hne
      obtain ⟨d0, d1, d2⟩ := HCL.out wr HF.out.bl
      go_wp2_with fail
      refine (writesOk _ _ _ r1 r2 xk xn xs wr HF.out.a HN.out HL.out).mono ?_
      rintro e w1 ⟨rfl, hp1⟩
      obtain ⟨hb1, r1', r2', ha1, hap1, hlo1, hbl1⟩ := HF.out.first hp1
      have HA1 : Hid (Two w1 w.heap.size (w.heap.size + 2) (dataOf (st.take k) ++ stepBytes xk xn xs) r1' r2') := ha1
      have HB1 : Hid (Two w1 (w.heap.size + 1) (w.heap.size + 3) (dataOf (st.take k)) r3 r4) := hb1
      have HAP1 : Hid (∀ k, foot w.heap.size (w.heap.size + 2) r1' r2' k → ¬ foot (w.heap.size + 1) (w.heap.size + 3) r3 r4 k) := hap1
      have HLO1 : Hid (∀ k, foot w.heap.size (w.heap.size + 2) r1' r2' k → w.heap.size ≤ k) := hlo1
      have HLO2 : Hid (∀ k, foot (w.heap.size + 1) (w.heap.size + 3) r3 r4 k → w.heap.size ≤ k) := fun k hk => HF.out.lo k (.inr hk)
      have HBL1 : Hid (Below w.heap.size w w1) := hbl1
      clear hp1 hb1 ha1 hap1 hlo1 hbl1 HF d0 d1 d2
      obtain ⟨d0, d1, d2⟩ := HCL.out w1 HBL1.out
      go_wp2_with fail
      refine (writesOk _ _ _ r3 r4 xk xn xs w1 HB1.out HN.out HL.out).mono ?_
      rintro e w2 ⟨rfl, hp2⟩
      obtain ⟨r3', r4', hf2⟩ := Four.second HA1.out HB1.out HAP1.out HLO1.out HLO2.out HBL1.out hp2
      have HF2 : Hid (Four w w2 w.heap.size (dataOf (st.take k) ++ stepBytes xk xn xs) r1' r2' r3' r4') := hf2
      clear hp2 hf2 HA1 HB1 HAP1 HLO1 HLO2 HBL1 d0 d1 d2
      obtain ⟨d0, d1, d2⟩ := HCL.out w2 HF2.out.bl
      go_wp2_with fail
      refine (writesNil xk xn xs w2 HN.out (by have := HL.out; omega)).mono ?_
      rintro e w3 ⟨rfl, hb3⟩
      have HF3 : Hid (Four w w3 w.heap.size (dataOf (st.take (k + 1))) r1' r2' r3' r4') := by rw [HD.out]; exact HF2.out.later hb3
      clear hb3 HF2 d0 d1 d2
      go_wp2
      go_roundw
      case rel => exact ⟨k + 1, r1', r2', r3', r4', by omega, by go_num, HF3.out⟩
      case measure => simp [intOf]; omega
    · have HL : Hid ((dataOf st).length ≤ 140737488351232) := Nat.le_trans (data_all st HSN.out) hload
      have HF2 : Hid (Four w wr w.heap.size (dataOf st) r1 r2 r3 r4) := by
        have := HF.out
        rw [List.take_of_length_le (by omega)] at this
        exact this
      clear HF
      go_wp2_with fail
      refine (wBytes _ (dataOf st) r1 wr HF2.out.a.a (by have := HL.out; omega)).mono ?_
      rintro e w1 ⟨vb, rb, rfl, ho1, hb1, hr1⟩
      have HO1 : Hid (BytesAt w1 vb (dataOf st)) := ho1.bytes
      have HF3 : Hid (Four w w1 w.heap.size (dataOf st) r1 r2 r3 r4) := HF2.out.later hb1
      clear ho1 hb1 hr1 HF2
      go_wp2_with fail
      refine (wBytes _ (dataOf st) r3 w1 HF3.out.b.a (by have := HL.out; omega)).mono ?_
      rintro e w2 ⟨vc, rc, rfl, ho2, hb2, hr2⟩
      have HO2 : Hid (BytesAt w2 vc (dataOf st)) := ho2.bytes
      have HO1' : Hid (BytesAt w2 vb (dataOf st)) := HO1.out.later hb2
      have HF4 : Hid (Four w w2 w.heap.size (dataOf st) r1 r2 r3 r4) := HF3.out.later hb2
      clear ho2 hb2 hr2 HF3 HO1
      obtain ⟨dv, hdv, hdf, hdo, _⟩ := HF4.out.a.b
      have HDO : Hid (BytesAt w2 dv (dataOf st)) := hdo.bytes
      clear hdo
      go_wp2_with fail
      refine (sameYes _ _ (dataOf st) w2 HO1'.out HDO.out).mono ?_
      rintro e w3 ⟨rfl, n3, rfl⟩
      go_wp2_with fail
      refine (sameYes _ _ (dataOf st) (w2.drewN n3) HO2.out HDO.out).mono ?_
      rintro e w4 ⟨rfl, n4, rfl⟩
      go_wp2_with fail
      refine (nLen _).mono ?_
      rintro e w5 ⟨rfl, rfl⟩
      go_wp2
      go_ret
      exact ⟨rfl, below_drewN HF4.out.bl _⟩
end Go.Proofs.Ytbngedfpojnbjab
