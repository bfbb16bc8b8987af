import Derived.Test.YtlbofjeopbadhaaJr
/-! dedupe: the law of parts: its walk. -/
namespace Go.Proofs.Ytlbofjeopbadhaa
open Go.RowKit Go.Maps Plain
set_option linter.unusedVariables false
set_option linter.unusedSimpArgs false

theorem FoldAt.lens {w w' : World} {v : Value} {ps : List Pr} {rs : List Rc} {r : Option Nat} (h : FoldAt w w' v ps rs r) : ∃ a cap, v = .slice a (fL ps rs).length cap := by
  obtain ⟨a, cap, e, _⟩ := h.row.shape
  exact ⟨a, cap, e⟩
theorem fL_ok (ps : List Pr) (rs : List Rc) : TabL (fL ps rs) := by
  by_cases h : fE ps rs = 0
  · exact (fE_ok h).2.2.2
  · rw [fL_bad h]; exact TabL.nil
theorem FoldAt.reads {w w' : World} {v : Value} {ps : List Pr} {rs : List Rc} {r : Option Nat} (h : FoldAt w w' v ps rs r) : PrsAt w' v (fL ps rs) := h.row.reads (fL_ok ps rs)
theorem rtake {l : List Rc} {k : Nat} (h : k < l.length) : l.getD k Rc.none ∈ l := by simp [h]
set_option maxHeartbeats 8000000 in
set_option maxRecDepth 100000 in
theorem partsWalk (a0 : Option Addr) (cap0 : Nat) (ps : List Pr) (va vb : Value) (a b : List Rc) (a3 : Option Addr) (cap3 : Nat) (bs : List Bool) (W : World) (hps : PrsAt W (.slice a0 ps.length cap0) ps) (ha : RecsAt W va a) (hb : RecsAt W vb b) (hbs : BlsAt W (.slice a3 bs.length cap3) bs) (hal : a.length ≤ 1048576) (hbl : b.length ≤ 1048576) :
    Calls Try.prog 3 #[.slice a0 ps.length cap0, va, vb, .slice a3 bs.length cap3] W fun e w' => e = .returned (.bool true) ∧ Below W.heap.size W w' := by
  have HPS : Hid (∀ u, Below W.heap.size W u → PrsAt u (.slice a0 ps.length cap0) ps) := fun u hu => hps.later hu
  have HRA : Hid (∀ u, Below W.heap.size W u → RecsAt u va a) := fun u hu => ha.later hu
  have HRB : Hid (∀ u, Below W.heap.size W u → RecsAt u vb b) := fun u hu => hb.later hu
  have HOK : Hid (∀ x ∈ a ++ b, x.Ok) := fun x hx => (List.mem_append.mp hx).elim (ha.ok x) (hb.ok x)
  have HJO : Hid (∀ u, Below W.heap.size W u → Calls Try.prog 7 #[va, vb] u fun e w' => ∃ v r, e = .returned v ∧ JoinAt u w' v (a ++ b) r) := fun u hu => joinedOf va vb a b u (ha.later hu) (hb.later hu) hal hbl
  have HBC : Hid (∀ u m, Below W.heap.size W u → m < bs.length → ∃ b off, a3 = some ⟨b, off, none⟩ ∧ u.cell? ⟨b, off + m, none⟩ = some (.bool (bs.getD m false))) := fun u m hu hm => by
    obtain ⟨a', c', e, _, hc⟩ := hbs.later hu
    obtain ⟨b', off, e2, hc⟩ := hc (by intro e; rw [e] at hm; simp at hm)
    simp at e
    exact ⟨b', off, by rw [e.1, e2], hc m hm⟩
  have hlab : (a ++ b).length ≤ 2097152 := by simp; omega
  have hbsl : bs.length ≤ 1048576 := by obtain ⟨_, _, _, h, _⟩ := hbs; exact h
  have HP1 : Hid (fE ps (a ++ b) ≠ 0 → fE ps a = fE ps (a ++ b) ∨ (fE ps a = 0 ∧ fE (fL ps a) b = fE ps (a ++ b) ∧ fL (fL ps a) b = [])) := parts1
  have HP2 : Hid (fE ps (a ++ b) = 0 → fE ps a = 0 ∧ fE (fL ps a) b = 0 ∧ fL (fL ps a) b = fL ps (a ++ b) ∧ TabL (fL ps a) ∧ TabL (fL ps (a ++ b))) := parts2
  have HP3 : Hid (fE ps (a ++ b) = 0 → ∀ c : List Rc, (∀ y ∈ c, y ∈ a ++ b) → fE (fL ps (a ++ b)) c = 0 ∧ fL (fL ps (a ++ b)) c = fL ps (a ++ b)) := fun h c hc => parts3 h hc
  have HBAD : Hid (fE ps (a ++ b) ≠ 0 → fL ps (a ++ b) = []) := fL_bad
  obtain ⟨aa, ca, rfl⟩ : ∃ aa ca, va = .slice aa a.length ca := by obtain ⟨x, y, e, _⟩ := ha; exact ⟨x, y, e⟩
  obtain ⟨ab, cb, rfl⟩ : ∃ aa ca, vb = .slice aa b.length ca := by obtain ⟨x, y, e, _⟩ := hb; exact ⟨x, y, e⟩
  clear hps ha hb hbs
  generalize hl : a ++ b = l at *
  clear hl
  go_enter Try.func3, Try.ntmps3
  go_wp2_with fail
  refine (headOf W).mono ?_
  rintro e w1 ⟨rfl, hb1⟩
  have HB1 : Hid (Below W.heap.size W w1) := hb1
  clear hb1
  go_wp2_with fail
  refine (HJO.out w1 HB1.out).mono ?_
  rintro e w2 ⟨v2, r2, rfl, hj2⟩
  have HB2 : Hid (Below W.heap.size W w2) := below_step HB1.out hj2.below
  have HF2 : Hid (Calls Try.prog 6 #[.slice a0 ps.length cap0, v2] w2 fun e w' => ∃ z r, e = .returned (.tuple #[z, .int .i64 (fE ps l)]) ∧ FoldAt w2 w' z ps l r) := foldOf _ ps _ l w2 (HPS.out _ HB2.out) (hj2.row.reads (by omega) HOK.out)
  clear hj2
  go_wp2_with fail
  refine HF2.out.mono ?_
  rintro e w3 ⟨z3, r3, rfl, hf3⟩
  have HF3 : Hid (FoldAt w2 w3 z3 ps l r3) := hf3
  have HB3 : Hid (Below W.heap.size W w3) := below_step HB2.out hf3.below
  have HA3 : Hid (PrsAt w3 z3 (fL ps l)) := hf3.reads
  clear hf3 HF2
  go_wp2_with fail
  refine (foldOf _ ps _ a w3 (HPS.out _ HB3.out) (HRA.out _ HB3.out)).mono ?_
  rintro e w4 ⟨z4, r4, rfl, hf4⟩
  have HF4 : Hid (FoldAt w3 w4 z4 ps a r4) := hf4
  have HB4 : Hid (Below W.heap.size W w4) := below_step HB3.out hf4.below
  have HA4 : Hid (PrsAt w4 z3 (fL ps l)) := HA3.out.later hf4.below
  have HO4 : Hid (PrsAt w4 z4 (fL ps a)) := hf4.reads
  clear hf4 HA3
  by_cases hE : fE ps l = 0
  · obtain ⟨e1, e2, e3, e4, e5⟩ := HP2.out hE
    have HSM : Hid (fL (fL ps a) b = fL ps l) := e3
    have HT : Hid (TabL (fL ps l)) := e5
    have HF5 : Hid (Calls Try.prog 6 #[z4, .slice ab b.length cb] w4 fun e w' => ∃ z r, e = .returned (.tuple #[z, .int .i64 0]) ∧ FoldAt w4 w' z (fL ps a) b r) := by
      have := foldOf z4 (fL ps a) _ b w4 HO4.out (HRB.out _ HB4.out)
      rwa [e2] at this
    rw [hE, e1]
    have HKN : Hid (∀ c : List Rc, (∀ y ∈ c, y ∈ l) → fE (fL ps l) c = 0 ∧ fL (fL ps l) c = fL ps l) := HP3.out hE
    clear hE e1 e2 e3 e4 e5 HP1 HP2 HP3 HBAD
    generalize fL ps l = AL at *
    generalize fL ps a = AA at *
    obtain ⟨x3, c3, rfl⟩ : ∃ aa ca, z3 = .slice aa AL.length ca := by obtain ⟨x, y, e, _⟩ := HA4.out; exact ⟨x, y, e⟩
    obtain ⟨x4, c4, rfl⟩ : ∃ aa ca, z4 = .slice aa AA.length ca := by obtain ⟨x, y, e, _⟩ := HO4.out; exact ⟨x, y, e⟩
    go_wp2_with fail
    refine HF5.out.mono ?_
    rintro e w5 ⟨z5, r5, rfl, hf5⟩
    have HB5 : Hid (Below W.heap.size W w5) := below_step HB4.out hf5.below
    have HA5 : Hid (PrsAt w5 (.slice x3 AL.length c3) AL) := HA4.out.later hf5.below
    have HO5 : Hid (PrsAt w5 z5 AL) := by
      have := hf5.reads
      rwa [HSM.out] at this
    clear hf5 HA4 HF5 HO4
    obtain ⟨x5, c5, rfl⟩ : ∃ aa ca, z5 = .slice aa AL.length ca := by obtain ⟨x, y, e, _⟩ := HO5.out; exact ⟨x, y, e⟩
    go_wp2_with fail
    refine (sameB _ _ AL w5 HO5.out HA5.out).mono ?_
    rintro e w6 ⟨rfl, hb6⟩
    have HB6 : Hid (Below W.heap.size W w6) := below_step HB5.out hb6
    have HA6 : Hid (PrsAt w6 (.slice x3 AL.length c3) AL) := HA5.out.later hb6
    clear hb6 HA5 HO5
    go_wp2_with fail
    refine (HJO.out w6 HB6.out).mono ?_
    rintro e w7 ⟨v7, r7, rfl, hj7⟩
    have HB7 : Hid (Below W.heap.size W w7) := below_step HB6.out hj7.below
    have HA7 : Hid (PrsAt w7 (.slice x3 AL.length c3) AL) := HA6.out.later hj7.below
    have HJ7 : Hid (RecsAt w7 v7 l) := hj7.row.reads (by omega) HOK.out
    clear hj7 HA6
    obtain ⟨x7, c7, rfl⟩ : ∃ aa ca, v7 = .slice aa l.length ca := by obtain ⟨x, y, e, _⟩ := HJ7.out; exact ⟨x, y, e⟩
    have HC7 : Hid (∀ u m, Below w7.heap.size w7 u → m < l.length → ∃ b off, x7 = some ⟨b, off, none⟩ ∧ CellsAt u b (off + m * 7) (l.getD m Rc.none)) := fun u m hu hm => by
      obtain ⟨a', c', e, _, _, hc⟩ := HJ7.out
      obtain ⟨b', off, e2, hc⟩ := hc (by intro e; rw [e] at hm; simp at hm)
      simp at e
      exact ⟨b', off, by rw [e.1, e2], (hc m hm).block (hu.block _ (hc m hm).lt)⟩
    go_wp2
    go_loopw [18, 20] (fun s18 i wr => ∃ (k : Nat) (sel : List Rc) (x c : _) (r : Option Nat), k ≤ l.length ∧ i = .int .i64 k ∧ s18 = .slice x sel.length c ∧ sel.length ≤ k ∧ Hid (OwnR wr (.slice x sel.length c) sel r) ∧ Hid (∀ g, r = some g → w7.heap.size ≤ g) ∧ Hid (∀ y ∈ sel, y ∈ l) ∧ Hid (Below w7.heap.size w7 wr))
      (fun _ i _ => l.length - (intOf i).toNat)
    case atStart => exact ⟨0, [], none, 0, none, Nat.zero_le _, rfl, rfl, Nat.le_refl _, OwnR.nil _, (fun g e => by cases e), (fun y hy => by simp at hy), Below.refl _ _⟩
    case round =>
      obtain ⟨k, sel, x, c, r, hk, rfl, rfl, hsl, HO, HN, HS, HB⟩ := hrel
      have HBW : Hid (Below W.heap.size W wr) := below_step HB7.out HB.out
      by_cases hlt : k < l.length
      · have hki : (k : Int) < (l.length : Int) := by omega
        by_cases hbl' : k < bs.length
        · have hbi : (k : Int) < (bs.length : Int) := by omega
          obtain ⟨bb, ob, rfl, hcb⟩ := HBC.out wr k HBW.out hbl'
          cases hv : bs.getD k false with
          | true =>
            rw [hv] at hcb
            obtain ⟨bl, ol, rfl, hcl⟩ := HC7.out wr k HB.out hlt
            have HMEM : Hid (l.getD k Rc.none ∈ l) := rtake hlt
            generalize l.getD k Rc.none = y at hcl HMEM
            have HSRC : Hid (Src Try.prog 7 23 (.slice (some ⟨wr.heap.size, 0, none⟩) 1 1) [y].length (rcells [y]) (wr.alloc (.cells #[.int .i64 y.k, .int .i64 y.o, .int .i64 y.t, .int .i64 y.p, .int .i64 y.q, .string y.key, .string y.val] 32))) :=
              Src.ofSlice _ Try.underlying23 _ 1 1 _ (by rfl) (fun j u hj => by
                rw [WideShapes.add_plain, World.cell?_alloc_at _ _ _ _ rfl, Nat.zero_add, ← hj]
                simp [rcells, Rc.cells]) (by intro u hu; simp [rcells, Rc.cells] at hu; rcases hu with rfl | rfl | rfl | rfl | rfl | rfl | rfl <;> rfl)
            obtain ⟨yk, yo, yt, yp, yq, ykey, yval⟩ := y
            obtain ⟨c0, c1, c2, c3', c4', c5', c6⟩ := hcl
            simp only at c0 c1 c2 c3' c4' c5' c6 HSRC
            go_wp2_with (at_builtin; refine wpList_append_any _ rfl _ _ rfl _ _ sel [⟨yk, yo, yt, yp, yq, ykey, yval⟩] r rfl rfl ?hOwn ?hSrc ?hLen ?_)
            case hOwn => exact HO.out.later ((Below.refl _ _).alloc (Nat.le_refl _) _)
            case hSrc => exact HSRC.out
            case hLen => simp; omega
            intro v9 w9 r9 ho9 hg9 hr9
            have hlen9 : (sel ++ [(⟨yk, yo, yt, yp, yq, ykey, yval⟩ : Rc)]).length = sel.length + 1 := by simp
            obtain ⟨x9, c9, rfl, -, -⟩ := ho9.shape
            have HO9 : Hid (OwnR w9 (.slice x9 (sel ++ [(⟨yk, yo, yt, yp, yq, ykey, yval⟩ : Rc)]).length c9) (sel ++ [⟨yk, yo, yt, yp, yq, ykey, yval⟩]) r9) := ho9
            have HB9 : Hid (Below w7.heap.size w7 w9) := by
              have h1 := below_step HB.out ((Below.refl _ wr).alloc (Nat.le_refl _) (.cells #[.int .i64 yk, .int .i64 yo, .int .i64 yt, .int .i64 yp, .int .i64 yq, .string ykey, .string yval] 32))
              exact h1.trans (grow_below hg9 h1.size HN.out)
            have HN9 : Hid (∀ g, r9 = some g → w7.heap.size ≤ g) := fun g e => by
              rcases hr9 with h | h
              · rw [h] at e; exact HN.out g e
              · rw [h] at e; simp at e; have := HB.out.size; omega
            have HS9 : Hid (∀ y ∈ sel ++ [(⟨yk, yo, yt, yp, yq, ykey, yval⟩ : Rc)], y ∈ l) := fun y hy => by
              rcases List.mem_append.mp hy with h | h
              · exact HS.out y h
              · simp at h; rw [h]; exact HMEM.out
            clear ho9 hg9 hr9 HSRC HMEM
            generalize hsel : sel ++ [(⟨yk, yo, yt, yp, yq, ykey, yval⟩ : Rc)] = sel' at HO9 HS9 hlen9
            clear hsel
            go_wp2
            go_roundw
            case rel => exact ⟨k + 1, sel', x9, c9, r9, by omega, by go_num, by rw [hlen9], by omega, HO9.out, HN9.out, HS9.out, HB9.out⟩
            case measure => simp [intOf]; omega
          | false =>
            rw [hv] at hcb
            go_wp2
            go_roundw
            case rel => exact ⟨k + 1, sel, x, c, r, by omega, by go_num, rfl, by omega, HO.out, HN.out, HS.out, HB.out⟩
            case measure => simp [intOf]; omega
        · have hbi : ¬ (k : Int) < (bs.length : Int) := by omega
          go_wp2
          go_roundw
          case rel => exact ⟨k + 1, sel, x, c, r, by omega, by go_num, rfl, by omega, HO.out, HN.out, HS.out, HB.out⟩
          case measure => simp [intOf]; omega
      · obtain rfl : k = l.length := by omega
        have HKS : Hid (fE AL sel = 0 ∧ fL AL sel = AL) := HKN.out sel HS.out
        have HA8 : Hid (PrsAt wr (.slice x3 AL.length c3) AL) := HA7.out.later HB.out
        have HF8 : Hid (Calls Try.prog 6 #[.slice x3 AL.length c3, .slice x sel.length c] wr fun e w' => ∃ z, e = .returned (.tuple #[z, .int .i64 0]) ∧ PrsAt w' z AL ∧ Below wr.heap.size wr w') := by
          have h1 := foldOf _ AL _ sel wr HA8.out (HO.out.reads (by omega) (fun y hy => HOK.out y (HS.out y hy)))
          rw [HKS.out.1] at h1
          refine h1.mono ?_
          rintro e w' ⟨z, r, rfl, hf⟩
          refine ⟨z, rfl, ?_, hf.below⟩
          have := hf.reads
          rwa [HKS.out.2] at this
        clear HC7 HBC HKN HKS
        go_wp2_with fail
        refine HF8.out.mono ?_
        rintro e u8 ⟨z8, rfl, hp8, hb8⟩
        have HP8 : Hid (PrsAt u8 z8 AL ∧ PrsAt u8 (.slice x3 AL.length c3) AL ∧ Below W.heap.size W u8) := ⟨hp8, HA8.out.later hb8, below_step HBW.out hb8⟩
        obtain ⟨x8, c8, rfl⟩ : ∃ aa ca, z8 = .slice aa AL.length ca := by obtain ⟨x, y, e, _⟩ := hp8; exact ⟨x, y, e⟩
        clear hp8 hb8 HF8
        go_wp2_with fail
        refine (sameB _ _ AL u8 HP8.out.1 HP8.out.2.1).mono ?_
        rintro e u9 ⟨rfl, hb9⟩
        have HB9 : Hid (Below W.heap.size W u9) := below_step HP8.out.2.2 hb9
        clear hb9
        go_wp2
        go_ret
        exact ⟨rfl, HB9.out⟩
  · have HBD : Hid (fL ps l = []) := HBAD.out hE
    have hE' : (fE ps l == 0) = false := by simpa using hE
    have hcs := HP1.out hE
    have HF5 : Hid (Calls Try.prog 6 #[z4, .slice ab b.length cb] w4 fun e w' => ∃ z r, e = .returned (.tuple #[z, .int .i64 (fE (fL ps a) b)]) ∧ FoldAt w4 w' z (fL ps a) b r) := foldOf z4 (fL ps a) _ b w4 HO4.out (HRB.out _ HB4.out)
    obtain ⟨x3, c3, rfl⟩ : ∃ aa ca, z3 = .slice aa 0 ca := by
      obtain ⟨x, y, e, _⟩ := HA4.out
      rw [HBD.out] at e
      exact ⟨x, y, e⟩
    obtain ⟨x4, c4, rfl⟩ : ∃ aa ca, z4 = .slice aa (fL ps a).length ca := by obtain ⟨x, y, e, _⟩ := HO4.out; exact ⟨x, y, e⟩
    clear HA4 HO4 HP1 HP2 HP3 HBAD HBD HF3
    generalize fE ps l = E at *
    generalize fL ps a = AA at *
    rcases hcs with e1 | ⟨e1, e2, e3⟩
    · rw [e1]
      generalize hX : fE AA b = X at HF5
      go_wp2_with fail
      refine HF5.out.mono ?_
      rintro e w5 ⟨z5, r5, rfl, hf5⟩
      have HB5 : Hid (Below W.heap.size W w5) := below_step HB4.out hf5.below
      obtain ⟨x5, c5, rfl⟩ := hf5.lens
      clear hf5 HF5
      go_wp2
      go_ret
      exact ⟨rfl, HB5.out⟩
    · rw [e1]
      rw [e2] at HF5
      have hE0 : (0 == E) = false := by
        have : ¬ 0 = E := fun h => hE h.symm
        simpa using this
      go_wp2_with fail
      refine HF5.out.mono ?_
      rintro e w5 ⟨z5, r5, rfl, hf5⟩
      have HB5 : Hid (Below W.heap.size W w5) := below_step HB4.out hf5.below
      obtain ⟨x5, c5, rfl⟩ := hf5.lens
      rw [e3]
      clear hf5 HF5
      go_wp2
      go_ret
      exact ⟨rfl, HB5.out⟩
end Go.Proofs.Ytlbofjeopbadhaa
