import Derived.Test.YthcnhjmkcekdaaaGreatQs48
namespace Go.Proofs.YthcnhjmkcekdaaaGreat
open Go.RowKit Go.Maps Plain
set_option linter.unusedVariables false
set_option linter.unusedSimpArgs false
theorem step_append_files {ops : Array Oper} {o : Oper} {a : Act} {w : World} {K : Act → World → Prop} {Q : Exit → Act → World → Prop} {E : Prop}
    (hg : o.guard = none) (s x : Operand) (hop : o.op = .call { callee := .builtin .append, args := #[s, x], argTypes := #[40, 40] }) (v xv : Value) (ts : List Fi) (ks : List Fi) (r : Option Nat)
    (hs : a.eval s = v) (hx : a.eval x = xv) (hown : OwnI w v ts r) (hsrc : Src Tryz.prog 2 40 xv ks.length (icells ks) w) (hlen : ts.length + ks.length ≤ 2199023255552) (hr0 : r ≠ none ∨ 0 < ks.length)
    (hK : ∀ v' w' g, OwnI w' v' (ts ++ ks) (some g) → w.grownBy w' r → (some g = r ∨ g = w.heap.size) → K (a.put o.dst v') w') :
    if Region.wanted o (yielded ops a.tmps) = true then Oper.wp Tryz.prog o a w K Q else E := by
  have hw : Region.wanted o (yielded ops a.tmps) = true := by simp [Region.wanted, hg]
  rw [if_pos hw]
  obtain ⟨v', w', g, hrun, h1, h2, h3⟩ := run_append_files w o.type v xv ts ks r hown hsrc hlen hr0
  unfold Oper.wp
  simp [execOp, hop, resolve, invoke, builtin, hs, hx, hrun, Result.andThen]
  exact hK v' w' g h1 h2 h3
def TwS (im : List (Nm × List Nat)) (w : World) (k : Nat) (v : Value) (wx : World) : Prop := ∃ ts r blk, ImgM wx v (im.take k) w.heap.size ts r blk ∧ Below w.heap.size w wx
theorem leB_up {a b : Nm} (h : leB b a = false) : a < b := by
  unfold leB at h
  rw [Bool.or_eq_false_iff, less_txt] at h
  have h1 : ¬ b < a := by simpa using h.1
  have h2 : b ≠ a := fun e => by
    have := h.2
    rw [e] at this
    simp at this
  exact Decidable.byContradiction fun hh => h2 (List.le_antisymm (List.not_lt.mp hh) (List.not_lt.mp h1))
theorem up_pairs {im : List (Nm × List Nat)} (h : ∀ (i : Nat) p q, im[i]? = some p → im[i + 1]? = some q → leB q.1 p.1 = false) : im.Pairwise fun a b => a.1 < b.1 := by
  rw [List.pairwise_iff_getElem]
  have key : ∀ d i (hi : i < im.length) (hj : i + d + 1 < im.length), im[i].1 < im[i + d + 1].1 := by
    intro d
    induction d with
    | zero => intro i hi hj; exact leB_up (h i _ _ (List.getElem?_eq_getElem hi) (List.getElem?_eq_getElem hj))
    | succ d ih =>
      intro i hi hj
      refine List.lt_trans (ih i hi (by omega)) ?_
      exact leB_up (h (i + d + 1) _ _ (List.getElem?_eq_getElem (by omega)) (List.getElem?_eq_getElem (by omega)))
  intro i j hi hj hij
  have := key (j - i - 1) i hi (by omega)
  have e : i + (j - i - 1) + 1 = j := by omega
  simp only [e] at this
  exact this
def ImO (w : World) (v : Value) (im : List (Nm × List Nat)) : Prop := ∃ a cap, v = .slice a im.length cap ∧ im.length ≤ cap ∧ cap ≤ 2 ^ 63 - 1 ∧ (im ≠ [] → ∃ b o, a = some ⟨b, o, none⟩ ∧ ∀ j k l, im[j]? = some (k, l) → ∃ ad nd cd, w.cell? ⟨b, o + j * 2, none⟩ = some (.string (str k)) ∧ w.cell? ⟨b, o + j * 2 + 1, none⟩ = some (.slice ad nd cd) ∧ BytesAt w (.slice ad nd cd) l)
theorem ImO.after {w w' : World} {v : Value} {im : List (Nm × List Nat)} (h : ImO w v im) (hb : Below w.heap.size w w') : ImO w' v im := by
  obtain ⟨a, c, rfl, h1, h2, h3⟩ := h
  refine ⟨a, c, rfl, h1, h2, fun hne => ?_⟩
  obtain ⟨b, o, e, h4⟩ := h3 hne
  refine ⟨b, o, e, fun j k l hj => ?_⟩
  obtain ⟨ad, nd, cd, f1, f2, f3⟩ := h4 j k l hj
  exact ⟨ad, nd, cd, (hb.cell (cell_lt f1)).trans f1, (hb.cell (cell_lt f2)).trans f2, f3.later hb⟩
set_option maxHeartbeats 4000000 in
set_option maxRecDepth 1000000 in
theorem sameImageO (v1 v2 : Value) (im : List (Nm × List Nat)) (w : World) (h1 : ImR w v1 im) (h2 : ImO w v2 im) : Calls Tryz.prog 12 #[v1, v2] w fun e w' => e = .returned (.bool true) ∧ Below w.heap.size w w' := by
  obtain ⟨a1, c1, rfl, p1, p2, p3⟩ := h1
  obtain ⟨a2, c2, rfl, q1, q2, q3⟩ := h2
  have HP3 : Hid (im ≠ [] → ∃ b, a1 = some ⟨b, 0, none⟩ ∧ ∀ j k l, im[j]? = some (k, l) → ∃ ad nd cd, w.cell? ⟨b, j * 2, none⟩ = some (.string (str k)) ∧ w.cell? ⟨b, j * 2 + 1, none⟩ = some (.slice ad nd cd) ∧ BytesAt w (.slice ad nd cd) l) := p3
  have HQ3 : Hid (im ≠ [] → ∃ b o, a2 = some ⟨b, o, none⟩ ∧ ∀ j k l, im[j]? = some (k, l) → ∃ ad nd cd, w.cell? ⟨b, o + j * 2, none⟩ = some (.string (str k)) ∧ w.cell? ⟨b, o + j * 2 + 1, none⟩ = some (.slice ad nd cd) ∧ BytesAt w (.slice ad nd cd) l) := q3
  clear p3 q3
  go_enter Tryz.func12, Tryz.ntmps12
  go_wp2
  go_loopg [5] im.length (fun gk s5 wx => ∃ (i n : Nat), i + gk = im.length ∧ s5 = .int .i64 i ∧ wx = w.drewN n)
  case atStart => exact ⟨0, 0, by omega, rfl, rfl⟩
  case round =>
    obtain ⟨i, n, hi, rfl, hwr⟩ := hrel
    have HWR : Hid (wr = w.drewN n) := hwr
    clear hwr
    cases gk with
    | zero =>
      obtain rfl : i = im.length := by omega
      go_wp2
      go_ret
      exact ⟨rfl, by rw [HWR.out]; exact below_drewN' w n⟩
    | succ gk1 =>
      have hil : i < im.length := by omega
      have hne : im ≠ [] := by rintro rfl; simp at hil
      obtain ⟨⟨k, l⟩, hkl⟩ : ∃ p, im[i]? = some p := ⟨_, List.getElem?_eq_getElem hil⟩
      obtain ⟨b1, rfl, f1⟩ := HP3.out hne
      obtain ⟨b2, o2, rfl, f2⟩ := HQ3.out hne
      obtain ⟨ad1, nd1, cd1, g1', g2', g3'⟩ := f1 i k l hkl
      obtain ⟨ad2, nd2, cd2, g4', g5', g6'⟩ := f2 i k l hkl
      have g1 : wr.cell? ⟨b1, i * 2, none⟩ = some (.string (str k)) := by rw [HWR.out]; exact g1'
      have g2 : wr.cell? ⟨b1, i * 2 + 1, none⟩ = some (.slice ad1 nd1 cd1) := by rw [HWR.out]; exact g2'
      have g3 : BytesAt wr (.slice ad1 nd1 cd1) l := by rw [HWR.out]; exact g3'.drewN n
      have g4 : wr.cell? ⟨b2, o2 + i * 2, none⟩ = some (.string (str k)) := by rw [HWR.out]; exact g4'
      have g5 : wr.cell? ⟨b2, o2 + i * 2 + 1, none⟩ = some (.slice ad2 nd2 cd2) := by rw [HWR.out]; exact g5'
      have g6 : BytesAt wr (.slice ad2 nd2 cd2) l := by rw [HWR.out]; exact g6'.drewN n
      clear g1' g2' g3' g4' g5' g6'
      have HSM : Hid (∀ nn, Calls Tryz.prog 39 #[.slice ad1 nd1 cd1, .slice ad2 nd2 cd2] (wr.drewN nn) fun e w' => e = .returned (.bool true) ∧ ∃ m, w' = (wr.drewN nn).drewN m) := fun nn => by
        have := sameBytes _ _ l l (wr.drewN nn) (g3.drewN nn) (g6.drewN nn)
        rw [decide_eq_true (rfl : l = l)] at this
        exact this
      have hsk : decide (str k ≠ str k) = false := by simp
      clear f1 f2 g3 g6 hkl hne
      generalize str k = sk at *
      go_wp2
      go_quiet (first | (go_at_call 39; exact Calls.quiet_of (HSM.out _)))
      go_wp2
      go_roundg gk1
      case measure => omega
      case rel => exact ⟨i + 1, _, by omega, by go_num, by rw [HWR.out, World.drewN_drewN]⟩
set_option maxHeartbeats 4000000 in
set_option maxRecDepth 1000000 in
theorem twinO (v : Value) (im : List (Nm × List Nat)) (w : World) (h : ImO w v im) (hfew : im.length ≤ 1048576) (hlim : ∀ p ∈ im, p.2.length ≤ 1073741824) :
    Calls Tryz.prog 9 #[v] w fun e w' => ∃ a l c, e = .returned (.slice a l c) ∧ ImgAt w' (.slice a l c) im w.heap.size ∧ Below w.heap.size w w' := by
  have HR : Hid (ImO w v im) := h
  have HL : Hid (∀ p ∈ im, p.2.length ≤ 1073741824) := hlim
  obtain ⟨a, c, rfl, p1, p2, p3⟩ := h
  have HT0 : Hid (TwS im w 0 (.slice none 0 0) w) := ⟨[], none, fun _ => none, ⟨.inl ⟨rfl, rfl, rfl⟩, by simp, by simp, by simp, by simp, by simp, by simp⟩, Below.refl _ _⟩
  clear p3 hlim
  go_enter Tryz.func9, Tryz.ntmps9
  go_wp2
  go_loopg [3, 4] im.length (fun gk s3 s4 wx => ∃ (k : Nat) (a3 : Option Addr) (n3 c3 : Nat), k + gk = im.length ∧ s4 = .int .i64 k ∧ s3 = .slice a3 n3 c3 ∧ Hid (TwS im w k (.slice a3 n3 c3) wx))
  case atStart => exact ⟨0, _, _, _, by omega, rfl, rfl, HT0.out⟩
  case round =>
    obtain ⟨k, a3, n3, c3, hk, rfl, rfl, HT⟩ := hrel
    cases gk with
    | zero =>
      obtain rfl : k = im.length := by omega
      go_wp2
      go_ret
      obtain ⟨ts, r, blk, h1, h2⟩ := HT.out
      rw [List.take_length] at h1
      exact ⟨_, _, _, rfl, ⟨ts, r, blk, h1⟩, h2⟩
    | succ gk1 =>
      have hkl : k < im.length := by omega
      have hne : im ≠ [] := by rintro rfl; simp at hkl
      obtain ⟨⟨nm, l⟩, hnl⟩ : ∃ p, im[k]? = some p := ⟨_, List.getElem?_eq_getElem hkl⟩
      obtain ⟨ts, r, blk, h1, h2⟩ := HT.out
      obtain ⟨a0, c0, e0, _, _, f0⟩ := HR.out.after h2
      obtain ⟨b, o, eb, f1⟩ := f0 hne
      cases e0
      subst eb
      obtain ⟨ad, nd, cd, g1, g2, g3⟩ := f1 k nm l hnl
      have hll := HL.out _ (List.mem_of_getElem? hnl)
      have hbA : Below wr.heap.size wr (wr.alloc (.cells #[] 5)).drew := ((Below.refl _ wr).alloc (Nat.le_refl _) _).drew
      have HSRC : Hid (BytesAt (wr.alloc (.cells #[] 5)).drew (.slice ad nd cd) l) := g3.later hbA
      have HALL : Hid (∀ w' : World, (wr.alloc (.cells #[] 5)).drew.grownBy w' (some wr.heap.size) → Below wr.heap.size wr w' ∧ wr.heap.size < w'.heap.size) := fun w' hg => by
        refine ⟨hbA.trans (grow_below hg (by simp) (by simp)), ?_⟩
        have := hg.size
        simp at this
        omega
      have HCL : Hid (∀ w' : World, Below wr.heap.size wr w' → w'.cell? ⟨b, o + k * 2, none⟩ = some (.string (str nm)) ∧ w'.cell? ⟨b, o + k * 2 + 1, none⟩ = some (.slice ad nd cd)) := fun w' hb => ⟨(hb.cell (cell_lt g1)).trans g1, (hb.cell (cell_lt g2)).trans g2⟩
      have HM : Hid (ImgM wr (.slice a3 n3 c3) (im.take k) w.heap.size ts r blk ∧ Below w.heap.size w wr ∧ im.take (k + 1) = im.take k ++ [(nm, l)] ∧ ts.length = k) := ⟨h1, h2, by
        obtain ⟨hl', e⟩ := List.getElem?_eq_some_iff.mp hnl
        rw [List.take_succ_eq_append_getElem hl', e], by rw [h1.len, List.length_take]; omega⟩
      have HOE : Hid (Own (wr.alloc (.cells #[] 5)).drew (.slice (some ⟨wr.heap.size, 0, none⟩) 0 0) [] (some wr.heap.size)) := (Own.empty wr 5).later (Below.refl _ _).drew
      have g1a : (wr.alloc (.cells #[] 5)).cell? ⟨b, o + k * 2, none⟩ = some (.string (str nm)) := (((Below.refl _ wr).alloc (Nat.le_refl _) _).cell (cell_lt g1)).trans g1
      have g2a : (wr.alloc (.cells #[] 5)).cell? ⟨b, o + k * 2 + 1, none⟩ = some (.slice ad nd cd) := (((Below.refl _ wr).alloc (Nat.le_refl _) _).cell (cell_lt g2)).trans g2
      clear h1 h2 f0 f1 g3 hne hnl
      go_wp2
      go_region_law (first
        | (refine step_append_bytes rfl (.tmp 17) (.tmp 22) 34 34 rfl Tryz.underlying34 (.slice (some ⟨wr.heap.size, 0, none⟩) 0 0) (.slice ad nd cd) [] l (some wr.heap.size) (by first | rfl | simp [Act.eval, Act.put]) (by first | rfl | simp [Act.eval, Act.put]) HOE.out HSRC.out.byte (src_of Tryz.underlying34 HSRC.out) (by simp; omega) ?_
           intro v6 w6 r6 ho6 hg6 hr6
           obtain ⟨hb6, hs6⟩ := HALL.out w6 hg6
           obtain ⟨y0, y1⟩ := HCL.out w6 hb6
           obtain ⟨a6, c6, rfl⟩ := own_slice ho6
           have H6 : Hid (Own w6 (.slice a6 ([] ++ l).length c6) ([] ++ l) r6 ∧ Below wr.heap.size wr w6 ∧ (∀ g, r6 = some g → wr.heap.size ≤ g)) := ⟨ho6, hb6, fun g e => by
             rcases hr6 with h | h
             · rw [h] at e; cases e; exact Nat.le_refl _
             · rw [h] at e; cases e; simp⟩
           clear ho6 hg6 hr6 hb6)
        | (refine step_append_files rfl (.tmp 11) (.tmp 25) rfl (.slice a3 n3 c3) _ ts [⟨str nm, .slice a6 ([] ++ l).length c6⟩] r (by first | rfl | simp [Act.eval, Act.put]) (by first | rfl | simp [Act.eval, Act.put]) ((HM.out.1.later H6.out.2.1).row.later ((Below.refl _ _).alloc (Nat.le_refl _) _)) (src_file w6 (str nm) a6 ([] ++ l).length c6) (by have := HM.out.2.2.2; simp; omega) (.inr (by simp)) ?_
           intro v4 w4 g4 ho4 hg4 hr4))
      all_goals
        obtain ⟨a4, c4, rfl, -, -⟩ := ho4.shape
        have HN : Hid (TwS im w (k + 1) (.slice a4 (ts ++ [(⟨str nm, .slice a6 ([] ++ l).length c6⟩ : Fi)]).length c4) w4) := by
          obtain ⟨d1, d2, d3⟩ := H6.out
          obtain ⟨c1, c2, c3', c4'⟩ := HM.out
          have hw := c2.size
          have hs67 : (w6.alloc (.cells #[.string (str nm), .slice a6 ([] ++ l).length c6] 46)).heap.size = w6.heap.size + 1 := by simp
          have hb67 : Below w6.heap.size w6 (w6.alloc (.cells #[.string (str nm), .slice a6 ([] ++ l).length c6] 46)) := (Below.refl _ _).alloc (Nat.le_refl _) _
          have hp := ((c1.later d2).later hb67).push (d1.later hb67) (k := nm) (fun g e => by
            have h1 := d3 g e
            refine ⟨by omega, fun e2 => ?_, fun j e2 => ?_⟩
            · rw [e2] at c1; have := c1.row.lt; omega
            · have := c1.live e2; omega) ho4 hg4 (by simpa using hr4) (by omega)
          refine ⟨_, _, _, by rw [c3']; exact hp, ?_⟩
          exact (c2.trans (d2.mono hw)).trans ((hb67.mono (by omega)).trans (grow_below hg4 (by omega) (fun g e => c1.rbase g e)))
        have HN2 : Hid (TwS im w (k + 1) (.slice a4 (ts.length + 1) c4) w4) := by
          have := HN.out
          rw [List.length_append, List.length_singleton] at this
          exact this
        clear ho4 hg4 hr4 HN
        go_wp2
        go_roundg gk1
        case measure => omega
        case rel => exact ⟨k + 1, _, _, _, by omega, by go_num, rfl, HN2.out⟩
end Go.Proofs.YthcnhjmkcekdaaaGreat
namespace Go.Proofs.YthcnhjmkcekdaaaGreat
open Go.RowKit Go.Maps Plain
set_option linter.unusedVariables false
set_option linter.unusedSimpArgs false
/-- May the file at place i stand there? -/
def goodI (im : List (Nm × List Nat)) : Nat → Bool
  | 0 => nmL (im.getD 0 ([], [])).1
  | i + 1 => nmL (im.getD (i + 1) ([], [])).1 && !leB (im.getD (i + 1) ([], [])).1 (im.getD i ([], [])).1
theorem getD_of {im : List (Nm × List Nat)} {i : Nat} {p : Nm × List Nat} (e : im[i]? = some p) : im.getD i ([], []) = p := by rw [List.getD_eq_getElem?_getD, e]; rfl
theorem goodI_is {im : List (Nm × List Nat)} {i : Nat} {p : Nm × List Nat} (e : im[i]? = some p) (h : goodI im i = true) : nmL p.1 = true ∧ ∀ j q, i = j + 1 → im[j]? = some q → leB p.1 q.1 = false := by
  cases i with
  | zero =>
    unfold goodI at h
    rw [getD_of e] at h
    exact ⟨h, fun j q e2 => by omega⟩
  | succ i =>
    simp only [goodI] at h
    rw [getD_of e] at h
    simp only [Bool.and_eq_true, Bool.not_eq_true'] at h
    refine ⟨h.1, fun j q e2 e3 => ?_⟩
    have : i = j := by omega
    subst this
    have h2 := h.2
    rw [getD_of e3] at h2
    exact h2
theorem goodI_not {im : List (Nm × List Nat)} {i : Nat} {k : Nm} {l : List Nat} (e : im[i]? = some (k, l)) (h : goodI im i = false) : nmL k = false ∨ (nmL k = true ∧ ∃ j q, i = j + 1 ∧ im[j]? = some q ∧ leB k q.1 = true) := by
  cases i with
  | zero =>
    unfold goodI at h
    rw [getD_of e] at h
    exact .inl h
  | succ i =>
    simp only [goodI] at h
    rw [getD_of e] at h
    have hi : i < im.length := by have := (List.getElem?_eq_some_iff.mp e).1; omega
    cases hn : nmL k with
    | false => exact .inl rfl
    | true =>
      rw [hn] at h
      simp only [Bool.true_and, Bool.not_eq_false'] at h
      refine .inr ⟨rfl, i, im[i], rfl, List.getElem?_eq_getElem hi, ?_⟩
      rw [getD_of (List.getElem?_eq_getElem hi)] at h
      exact h
/-- All may stand, or there is a first one that may not. -/
theorem goodI_first (im : List (Nm × List Nat)) : (∀ i, i < im.length → goodI im i = true) ∨ ∃ i0, i0 < im.length ∧ (∀ i, i < i0 → goodI im i = true) ∧ goodI im i0 = false := by
  have : ∀ n, n ≤ im.length → (∀ i, i < n → goodI im i = true) ∨ ∃ i0, i0 < n ∧ (∀ i, i < i0 → goodI im i = true) ∧ goodI im i0 = false := by
    intro n
    induction n with
    | zero => exact fun _ => .inl fun i hi => by omega
    | succ n ih =>
      intro hn
      rcases ih (by omega) with h | ⟨i0, h1, h2, h3⟩
      · cases hg : goodI im n with
        | true =>
          refine .inl fun i hi => ?_
          rcases Nat.lt_succ_iff_lt_or_eq.mp hi with h4 | h4
          · exact h i h4
          · rw [h4]; exact hg
        | false => exact .inr ⟨n, by omega, h, hg⟩
      · exact .inr ⟨i0, by omega, h2, h3⟩
  exact this im.length (Nat.le_refl _)
set_option maxHeartbeats 4000000 in
set_option maxRecDepth 1000000 in
theorem isImageBad (v : Value) (im : List (Nm × List Nat)) (i0 : Nat) (w : World) (h : ImR w v im) (hi0 : i0 < im.length) (hz : ∀ p ∈ im, (str p.1).size ≤ maxLen) (hg : ∀ i, i < i0 → goodI im i = true) (hbad : goodI im i0 = false) :
    Calls Tryz.prog 33 #[v] w fun e w' => e = .returned (.bool false) ∧ Below w.heap.size w w' := by
  have HIM : Hid (ImR w v im) := h
  obtain ⟨a, c, rfl, p1, p2, p3⟩ := h
  have HN : Hid (∀ p ∈ im, (str p.1).size ≤ maxLen) := fun p hp => hz p hp
  have HG : Hid (∀ i k l, i < i0 → im[i]? = some (k, l) → nmL k = true) := fun i k l hi e => (goodI_is e (hg i hi)).1
  have HU : Hid (∀ (i : Nat) p q, i + 1 < i0 → im[i]? = some p → im[i + 1]? = some q → leB q.1 p.1 = false) := fun i p q hi e1 e2 => (goodI_is e2 (hg (i + 1) hi)).2 i p rfl e1
  have HBAD : Hid (∀ k l, im[i0]? = some (k, l) → nmL k = false ∨ (nmL k = true ∧ ∃ i q, i0 = i + 1 ∧ im[i]? = some q ∧ leB k q.1 = true)) := fun k l e => goodI_not e hbad
  clear p3 hz hg hbad
  go_enter Tryz.func33, Tryz.ntmps33
  go_wp2
  go_loopg [7] i0 (fun gk s7 wx => ∃ (i : Nat), i + gk = i0 ∧ s7 = .int .i64 i ∧ Hid (Below w.heap.size w wx))
  case atStart => exact ⟨0, by omega, rfl, Below.refl _ _⟩
  case round =>
    obtain ⟨i, hi, rfl, HB⟩ := hrel
    cases gk with
    | zero =>
      have hii : i0 = i := by omega
      subst hii
      have hil : i0 < im.length := hi0
      have hne : im ≠ [] := by rintro rfl; simp at hil
      obtain ⟨⟨k, l⟩, hkl⟩ : ∃ p, im[i0]? = some p := ⟨_, List.getElem?_eq_getElem hil⟩
      obtain ⟨a0, c0, e0, _, _, f0⟩ := HIM.out.after HB.out
      obtain ⟨b, eb, f1⟩ := f0 hne
      cases e0
      subst eb
      obtain ⟨ad, nd, cd, g1, g2, g3⟩ := f1 i0 k l hkl
      have hks := HN.out _ (List.mem_of_getElem? hkl)
      have HB3 : Hid (∀ n, Below w.heap.size w ((wr.alloc (.cells #[.string (str k), .slice ad nd cd] 46)).drewN n)) := fun n => (HB.out.trans ((Below.refl _ wr).alloc (Nat.le_refl _) _ |>.mono HB.out.size)).trans ((below_drewN' _ n).mono (by have := HB.out.size; simp; omega))
      have hnn : (i0 : Int) < (im.length : Int) := by omega
      rcases HBAD.out k l hkl with hb0 | ⟨hb0, j, ⟨k0, l0⟩, rfl, hkl0, hle0⟩
      · have HNM : Hid (∀ w1, Calls Tryz.prog 75 #[.string (str k)] w1 fun e w' => e = .returned (.bool false) ∧ w' = w1) := fun w1 => by
          have := isNameOf (str k) w1 hks
          rw [str_list, hb0] at this
          exact this
        clear f0 f1 g3 hkl hne hb0 hks HN HG HU HBAD
        generalize str k = sk at *
        go_wp2
        go_quiet ((go_at_call 75; exact Calls.quiet_of_same (HNM.out _)))
        go_wp2
        go_ret
        exact ⟨rfl, HB3.out _⟩
      · have HNM : Hid (∀ w1, Calls Tryz.prog 75 #[.string (str k)] w1 fun e w' => e = .returned (.bool true) ∧ w' = w1) := fun w1 => by
          have := isNameOf (str k) w1 hks
          rw [str_list, hb0] at this
          exact this
        have hd0 : decide (0 < j + 1) = true := by simp
        obtain ⟨ad0, nd0, cd0, g4, g5, g6⟩ := f1 j k0 l0 hkl0
        have hwj : IntKind.i64.wrap (j : Int) = (j : Int) := by rw [IntKind.wrap_i64]; omega
        have g4a : (wr.alloc (.cells #[.string (str k), .slice ad nd cd] 46)).cell? ⟨b, j * 2, none⟩ = some (.string (str k0)) := (((Below.refl _ wr).alloc (Nat.le_refl _) _).cell (cell_lt g4)).trans g4
        have hji : j < im.length := by omega
        have hjz : (j : Int) < (im.length : Int) := by omega
        have hle : (Op.bytesLess (str k).toList (str k0).toList || (str k).toList == (str k0).toList) = true := hle0
        clear f0 f1 g3 g6 hkl hne hkl0 hle0 hb0 hks HN HG HU HBAD
        go_wp2
        go_quiet ((go_at_call 75; exact Calls.quiet_of_same (HNM.out _)))
        go_wp2
        go_ret
        exact ⟨rfl, HB3.out _⟩
    | succ gk1 =>
      have hil : i < im.length := by omega
      have hne : im ≠ [] := by rintro rfl; simp at hil
      obtain ⟨⟨k, l⟩, hkl⟩ : ∃ p, im[i]? = some p := ⟨_, List.getElem?_eq_getElem hil⟩
      obtain ⟨a0, c0, e0, _, _, f0⟩ := HIM.out.after HB.out
      obtain ⟨b, eb, f1⟩ := f0 hne
      cases e0
      subst eb
      obtain ⟨ad, nd, cd, g1, g2, g3⟩ := f1 i k l hkl
      have hk := (⟨HG.out i k l (by omega) hkl, HN.out _ (List.mem_of_getElem? hkl)⟩ : nmL k = true ∧ (str k).size ≤ maxLen)
      have HNM : Hid (∀ w1, Calls Tryz.prog 75 #[.string (str k)] w1 fun e w' => e = .returned (.bool true) ∧ w' = w1) := fun w1 => by
        have := isNameOf (str k) w1 hk.2
        rw [str_list, hk.1] at this
        exact this
      rcases Nat.eq_zero_or_pos i with hi0 | hi0
      · have hd0 : decide (0 < i) = false := by simp; omega
        have HB3 : Hid (∀ n, Below w.heap.size w ((wr.alloc (.cells #[.string (str k), .slice ad nd cd] 46)).drewN n)) := fun n => (HB.out.trans ((Below.refl _ wr).alloc (Nat.le_refl _) _ |>.mono HB.out.size)).trans ((below_drewN' _ n).mono (by have := HB.out.size; simp; omega))
        clear f0 f1 g3 hk hkl hne hi0
        generalize str k = sk at *
        go_wp2
        go_quiet ((go_at_call 75; exact Calls.quiet_of_same (HNM.out _)))
        go_wp2
        go_roundg gk1
        case measure => omega
        case rel => exact ⟨i + 1, by omega, by go_num, HB3.out _⟩
      · obtain ⟨j, rfl⟩ : ∃ j, i = j + 1 := ⟨i - 1, by omega⟩
        have hd0 : decide (0 < j + 1) = true := by simp
        obtain ⟨⟨k0, l0⟩, hkl0⟩ : ∃ p, im[j]? = some p := ⟨_, List.getElem?_eq_getElem (by omega)⟩
        obtain ⟨ad0, nd0, cd0, g4, g5, g6⟩ := f1 j k0 l0 hkl0
        have hlt := HU.out j _ _ (by omega) hkl0 hkl
        have hwj : IntKind.i64.wrap (j : Int) = (j : Int) := by rw [IntKind.wrap_i64]; omega
        have g4a : (wr.alloc (.cells #[.string (str k), .slice ad nd cd] 46)).cell? ⟨b, j * 2, none⟩ = some (.string (str k0)) := (((Below.refl _ wr).alloc (Nat.le_refl _) _).cell (cell_lt g4)).trans g4
        have hji : j < im.length := by omega
        have hjz : (j : Int) < (im.length : Int) := by omega
        have hle : (Op.bytesLess (str k).toList (str k0).toList || (str k).toList == (str k0).toList) = false := hlt
        have HB3 : Hid (∀ n, Below w.heap.size w ((wr.alloc (.cells #[.string (str k), .slice ad nd cd] 46)).drewN n)) := fun n => (HB.out.trans ((Below.refl _ wr).alloc (Nat.le_refl _) _ |>.mono HB.out.size)).trans ((below_drewN' _ n).mono (by have := HB.out.size; simp; omega))
        clear f0 f1 g3 g6 hk hkl hne hi0 hkl0 hlt
        go_wp2
        go_quiet ((go_at_call 75; exact Calls.quiet_of_same (HNM.out _)))
        go_wp2
        go_roundg gk1
        case measure => omega
        case rel => exact ⟨j + 1 + 1, by omega, by go_num, HB3.out _⟩
set_option maxRecDepth 100000 in
theorem loadQ (q : Int) (hq1 : I64 q) (hq : qB q = false) (a : Option Addr) (n c : Nat) (w : World) : Calls Tryz.prog 10 #[.slice a n c, .int .i64 q] w fun e w' => e = .returned (.tuple #[.pointer none, .int .i64 3]) ∧ Below w.heap.size w w' := by
  have HQ : Hid (Calls Tryz.prog 32 #[.int .i64 q] w fun e w' => e = .returned (.bool false) ∧ w' = w) := by
    have := isQuotaOf q hq1.1 hq1.2 w
    rwa [hq] at this
  have HB := Hid.mkR (Below.refl w.heap.size w)
  clear hq hq1
  go_enter Tryz.func10, Tryz.ntmps10
  go_wp2_with fail
  refine HQ.out.mono ?_
  rintro e w1 ⟨rfl, rfl⟩
  go_wp2
  go_ret2
  exact ⟨rfl, HB.out⟩
set_option maxRecDepth 100000 in
theorem loadMany (q : Int) (hq : qB q = true) (a : Option Addr) (n c : Nat) (hn : 65536 < n) (hn2 : n ≤ 9223372036854775807) (w : World) : Calls Tryz.prog 10 #[.slice a n c, .int .i64 q] w fun e w' => e = .returned (.tuple #[.pointer none, .int .i64 35]) ∧ Below w.heap.size w w' := by
  have hq' : 0 ≤ q ∧ q ≤ 1073741824 := by simpa [qB] using hq
  have HQ : Hid (Calls Tryz.prog 32 #[.int .i64 q] w fun e w' => e = .returned (.bool true) ∧ w' = w) := by
    have := isQuotaOf q (by omega) (by omega) w
    rwa [hq] at this
  have HB := Hid.mkR (Below.refl w.heap.size w)
  have hni : (65536 : Int) < (n : Int) := by omega
  clear hq hq'
  go_enter Tryz.func10, Tryz.ntmps10
  go_wp2_with fail
  refine HQ.out.mono ?_
  rintro e w1 ⟨rfl, rfl⟩
  go_wp2
  go_ret2
  exact ⟨rfl, HB.out⟩
set_option maxRecDepth 100000 in
theorem loadWrong (q : Int) (hq : qB q = true) (v : Value) (im : List (Nm × List Nat)) (i0 : Nat) (w : World) (h : ImR w v im) (hfew : im.length ≤ 65536) (hi0 : i0 < im.length) (hz : ∀ p ∈ im, (str p.1).size ≤ maxLen) (hg : ∀ i, i < i0 → goodI im i = true) (hbad : goodI im i0 = false) : Calls Tryz.prog 10 #[v, .int .i64 q] w fun e w' => e = .returned (.tuple #[.pointer none, .int .i64 36]) ∧ Below w.heap.size w w' := by
  have hq' : 0 ≤ q ∧ q ≤ 1073741824 := by simpa [qB] using hq
  have HQ : Hid (Calls Tryz.prog 32 #[.int .i64 q] w fun e w' => e = .returned (.bool true) ∧ w' = w) := by
    have := isQuotaOf q (by omega) (by omega) w
    rwa [hq] at this
  have HIM := Hid.mkR (isImageBad v im i0 w h hi0 hz hg hbad)
  obtain ⟨a, c, rfl, p1, p2, p3⟩ := h
  have hni : ¬ (65536 : Int) < (im.length : Int) := by omega
  clear hq hq' p3 hz hg hbad
  go_enter Tryz.func10, Tryz.ntmps10
  go_wp2_with fail
  refine HQ.out.mono ?_
  rintro e w1 ⟨rfl, rfl⟩
  go_wp2_with fail
  refine HIM.out.mono ?_
  rintro e w2 ⟨rfl, hb2⟩
  have HB := Hid.mkR hb2
  clear hb2 HIM HQ
  go_wp2
  go_ret2
  exact ⟨rfl, HB.out⟩
end Go.Proofs.YthcnhjmkcekdaaaGreat
