import Derived.Test.YthcnhjmkcekdaaaGreatQs39
import Derived.Test.YthcnhjmkcekdaaaGreatQs32
import Derived.Test.YthcnhjmkcekdaaaGreatQs29
import Derived.Test.YthcnhjmkcekdaaaGreatQs17
import Derived.Test.YthcnhjmkcekdaaaGreatQs37
namespace Go.Proofs.YthcnhjmkcekdaaaGreat
open Go.RowKit Go.Maps Plain
set_option linter.unusedVariables false
set_option linter.unusedSimpArgs false
/-- Of a file. -/
structure FOk (st : List (List Nat)) (gr : List Int) (n : Nat) : Prop where
  gl : gr.length = st.length
  one : 1 ≤ st.length
  le : st.length ≤ n + 1
  sz : ∀ i, (st.getD i []).length ≤ 1073741824
  gw : ∀ i, i + 1 < st.length → 0 ≤ gr.getD (i + 1) 0 → ((st.getD (i + 1) []).length : Int) = (st.getD i []).length + gr.getD (i + 1) 0
theorem FOk.more {st : List (List Nat)} {gr : List Int} {n m : Nat} (h : FOk st gr n) (hm : n ≤ m) : FOk st gr m := ⟨h.gl, h.one, by have := h.le; omega, h.sz, h.gw⟩
theorem FOk.one' (l : List Nat) (n : Nat) (hl : l.length ≤ 1073741824) : FOk [l] [-1] n := by
  refine ⟨rfl, Nat.le_refl _, by simp, fun i => ?_, fun i hi => ?_⟩
  · cases i with
    | zero => exact hl
    | succ i => simp
  · simp at hi
theorem getD_snoc_lt {α : Type} (l : List α) (x d : α) {i : Nat} (h : i < l.length) : (l ++ [x]).getD i d = l.getD i d := by
  rw [List.getD_eq_getElem?_getD, List.getElem?_append_left h, List.getD_eq_getElem?_getD]
theorem getD_snoc_eq {α : Type} (l : List α) (x d : α) : (l ++ [x]).getD l.length d = x := by
  rw [List.getD_eq_getElem?_getD, List.getElem?_append_right (Nat.le_refl _)]; simp
theorem FOk.push {st : List (List Nat)} {gr : List Int} {n : Nat} (h : FOk st gr n) {l : List Nat} {z : Int} (hl : l.length ≤ 1073741824) (hz : 0 ≤ z → (l.length : Int) = (st.getD (st.length - 1) []).length + z) : FOk (st ++ [l]) (gr ++ [z]) (n + 1) := by
  have hg := h.gl
  have h1 := h.one
  refine ⟨by simp [hg], by simp, by have := h.le; simp; omega, fun i => ?_, fun i hi h0 => ?_⟩
  · rcases Nat.lt_trichotomy i st.length with e | e | e
    · rw [getD_snoc_lt _ _ _ e]; exact h.sz i
    · rw [e, getD_snoc_eq]; exact hl
    · rw [List.getD_eq_getElem?_getD, List.getElem?_eq_none (by simp; omega)]; simp
  · rw [List.length_append] at hi
    simp at hi
    by_cases e : i + 1 < st.length
    · rw [getD_snoc_lt _ _ _ (by omega : i + 1 < gr.length)] at h0 ⊢
      rw [getD_snoc_lt _ _ _ e, getD_snoc_lt _ _ _ (by omega)]
      exact h.gw i e h0
    · have e2 : i + 1 = st.length := by omega
      have e3 : i + 1 = gr.length := by omega
      rw [e3, getD_snoc_eq] at h0
      have h4 := hz h0
      rw [show (gr ++ [z]).getD (i + 1) 0 = z by rw [e3, getD_snoc_eq], show (st ++ [l]).getD (i + 1) [] = l by rw [e2, getD_snoc_eq], getD_snoc_lt _ _ _ (by omega)]
      rw [show i = st.length - 1 by omega]
      exact h4
/-- Of a disk. -/
structure RInv (r : Rk) (n : Nat) : Prop where
  fl : r.ps.files.length ≤ n
  gl : r.ps.grown.length = r.ps.files.length
  fo : ∀ f, f < r.ps.files.length → FOk (r.ps.files.getD f []) (r.ps.grown.getD f []) n
theorem RInv.more {r : Rk} {n m : Nat} (h : RInv r n) (hm : n ≤ m) : RInv r m := ⟨Nat.le_trans h.fl hm, h.gl, fun f hf => (h.fo f hf).more hm⟩
theorem RInv.same {r r' : Rk} {n : Nat} (h : RInv r n) (e1 : r'.ps.files = r.ps.files) (e2 : r'.ps.grown = r.ps.grown) : RInv r' n := ⟨by rw [e1]; exact h.fl, by rw [e1, e2]; exact h.gl, by rw [e1, e2]; exact h.fo⟩
theorem getDs_eq {α : Type} (l : List α) (x d : α) {f : Nat} (h : f < l.length) : (l.set f x).getD f d = x := by
  rw [List.getD_eq_getElem?_getD, List.getElem?_set_self h]; rfl
theorem getDs_ne {α : Type} (l : List α) (x d : α) {f g : Nat} (h : f ≠ g) : (l.set f x).getD g d = l.getD g d := by
  rw [List.getD_eq_getElem?_getD, List.getElem?_set_ne h, List.getD_eq_getElem?_getD]
theorem RInv.setF {r r' : Rk} {n f : Nat} (h : RInv r n) (hf : f < r.ps.files.length) {st : List (List Nat)} {gr : List Int} (e1 : r'.ps.files = r.ps.files.set f st) (e2 : r'.ps.grown = r.ps.grown.set f gr) (ho : FOk st gr (n + 1)) : RInv r' (n + 1) := by
  refine ⟨by rw [e1, List.length_set]; have := h.fl; omega, by rw [e1, e2, List.length_set, List.length_set]; exact h.gl, fun g hg => ?_⟩
  rw [e1, List.length_set] at hg
  rw [e1, e2]
  by_cases e : f = g
  · subst e
    rw [getDs_eq _ _ _ hf, getDs_eq _ _ _ (by rw [h.gl]; exact hf)]
    exact ho
  · rw [getDs_ne _ _ _ e, getDs_ne _ _ _ e]
    exact (h.fo g hg).more (Nat.le_succ _)
theorem RInv.do1 {r : Rk} {n : Nat} (h : RInv r n) (nm : ByteArray) : RInv (rdo1 r nm) (n + 1) := by
  have hl := h.gl
  refine ⟨by show (r.ps.files ++ [[[]]]).length ≤ _; have := h.fl; simp; omega, by show (r.ps.grown ++ [[-1]]).length = (r.ps.files ++ [[[]]]).length; simp [hl], fun f hf => ?_⟩
  show FOk ((r.ps.files ++ [[[]]]).getD f []) ((r.ps.grown ++ [[-1]]).getD f []) _
  have hf' : f < r.ps.files.length + 1 := by have : f < (r.ps.files ++ [[[]]]).length := hf; simpa using this
  by_cases e : f < r.ps.files.length
  · rw [getD_snoc_lt _ _ _ e, getD_snoc_lt _ _ _ (by omega)]; exact (h.fo f e).more (Nat.le_succ _)
  · have e2 : f = r.ps.files.length := by omega
    have a1 : (r.ps.files ++ [[[]]]).getD f [] = [[]] := by rw [e2]; exact getD_snoc_eq _ _ _
    have a2 : (r.ps.grown ++ [[-1]]).getD f [] = [-1] := by rw [show f = r.ps.grown.length by omega]; exact getD_snoc_eq _ _ _
    rw [a1, a2]
    exact FOk.one' [] _ (by simp)
theorem RInv.do2 {r : Rk} {n f : Nat} (h : RInv r n) (hf : f < r.ps.files.length) {b : List Nat} (hb : (r.ps.now f).length + b.length ≤ 1073741824) : RInv (rdo2 r f b) (n + 1) :=
  h.setF hf rfl rfl ((h.fo f hf).push (by rw [List.length_append]; exact hb) (fun _ => by rw [List.length_append]; show ((_ + _ : Nat) : Int) = _; rw [Int.natCast_add]; rfl))
theorem RInv.do3 {r : Rk} {n f : Nat} (h : RInv r n) (hf : f < r.ps.files.length) (m : Nat) : RInv (rdo3 r f m) (n + 1) :=
  h.setF hf rfl rfl ((h.fo f hf).push (by rw [List.length_take]; have : (r.ps.now f).length ≤ 1073741824 := (h.fo f hf).sz _; omega) (fun h0 => absurd h0 (by decide)))
theorem RInv.do4 {r : Rk} {n f : Nat} (h : RInv r n) (hf : f < r.ps.files.length) : RInv (rdo4 r f) (n + 1) :=
  h.setF hf rfl rfl (FOk.one' _ _ ((h.fo f hf).sz _))
theorem RInv.born {q : Int} {im : List (Nm × List Nat)} {n : Nat} (hl : im.length ≤ n) (hs : ∀ p ∈ im, p.2.length ≤ 1073741824) : RInv (rkB q im) n := by
  refine ⟨by show (im.map _).length ≤ n; simpa using hl, by show (im.map _).length = (im.map _).length; simp, fun f hf => ?_⟩
  have hf' : f < im.length := by have : f < (im.map fun p => [p.2]).length := hf; simpa using this
  show FOk ((im.map fun p => [p.2]).getD f []) ((im.map fun _ => [(-1 : Int)]).getD f []) n
  rw [List.getD_eq_getElem?_getD, List.getD_eq_getElem?_getD, List.getElem?_map, List.getElem?_map, List.getElem?_eq_getElem hf']
  exact FOk.one' _ _ (hs _ (List.getElem_mem hf'))
end Go.Proofs.YthcnhjmkcekdaaaGreat

namespace Go.Proofs.YthcnhjmkcekdaaaGreat
open Go.RowKit Go.Maps Plain
set_option linter.unusedVariables false
set_option linter.unusedSimpArgs false
theorem Rl.bd {k : Dk} {ν : Nat → Nat} {r : Rk} {n : Nat} (h : Rl k ν r) (hd : k.Dok n) (hp : k.Past) (hu : k.Sum) (hi : RInv r n) (hn : n ≤ 2000000000000) : r.Bd := by
  have hdl := h.ps.dlen
  have hcn := hd.cnt
  refine ⟨⟨PsS.ok ⟨hi.fl, hi.gl, fun f hf => ⟨(hi.fo f hf).gl, (hi.fo f hf).one, (hi.fo f hf).le⟩⟩ h.ps hd hp hn, by omega⟩, by omega, by have := hi.fl; omega, by rw [h.len hd]; exact hd.few, ?_, fun f hf => ?_, ?_, ?_, ?_, ?_⟩
  · have h1 := h.used hd hu
    have h2 := hu.lim
    omega
  · have := (hi.fo f hf).le
    have := (hi.fo f hf).gl
    omega
  · rw [h.left]
    cases e : k.fused with
    | true => obtain ⟨a1, a2⟩ := hd.ok.fuse e; rw [if_pos rfl]; exact ⟨by omega, by omega⟩
    | false => rw [if_neg (by simp)]; unfold I64; decide
  · rw [h.done]; exact hd.ok.ops.1
  · rw [h.done]; have := hd.ok.ops.2; omega
  · rw [h.most]; exact hu.quota
theorem RInv.step {r : Rk} {n : Nat} (h : RInv r n) (hb : r.Bd) (kd : Int) (nm to : ByteArray) (m : Int) (b : List Nat) : RInv (doR r kd nm to m b).2 (n + 1) := by
  have hsp : RInv r.spent n := h.same (by rw [Rk.spent_ps]) (by rw [Rk.spent_ps])
  have hfs : r.spent.ps = r.ps := Rk.spent_ps r
  have hld : 0 ≤ leadL r.ps.last nm.data.toList → (leadL r.ps.last nm.data.toList).toNat < r.spent.ps.files.length ∧ (r.ps.now (leadL r.ps.last nm.data.toList).toNat).length ≤ usedN r.ps r.ps.last := fun h0 => ⟨by rw [hfs]; exact (lead_ref hb.ok h0).1, now_used (lead_mem h0)⟩
  have hmo := hb.most
  unfold doR doX
  split
  · exact h.more (Nat.le_succ _)
  · split
    · exact h.more (Nat.le_succ _)
    · rename_i hz
      have hz' : rfR r kd nm to m b = 0 := Decidable.byContradiction hz
      split
      · show RInv (goR r kd nm to m b r.spent) (n + 1)
        unfold goR
        unfold rfR at hz'
        by_cases h1 : kd = 1
        · rw [if_pos h1]; exact hsp.do1 nm
        rw [if_neg h1] at hz' ⊢
        by_cases h2 : kd = 2
        · rw [if_pos h2] at hz' ⊢
          obtain ⟨q1, q2⟩ := rfs2_lead hz'
          obtain ⟨q3, q4⟩ := hld q1
          refine hsp.do2 q3 ?_
          have q5 : (r.spent.ps.now (leadL r.ps.last nm.data.toList).toNat).length ≤ 1073741824 := (hsp.fo _ q3).sz _
          have q6 : r.spent.ps.now (leadL r.ps.last nm.data.toList).toNat = r.ps.now (leadL r.ps.last nm.data.toList).toNat := by rw [hfs]
          rw [q6] at q5 ⊢
          rcases q2 with q2 | q2 <;> omega
        rw [if_neg h2] at hz' ⊢
        by_cases h3 : kd = 3
        · rw [if_pos h3] at hz' ⊢
          exact hsp.do3 (hld (rfs3_lead hz').1).1 _
        rw [if_neg h3] at hz' ⊢
        by_cases h4 : kd = 4
        · rw [if_pos h4] at hz' ⊢
          exact hsp.do4 (hld (rfs4_lead hz')).1
        rw [if_neg h4] at hz' ⊢
        by_cases h5 : kd = 5
        · rw [if_pos h5]; exact (hsp.same (r' := rdo5 r.spent) rfl rfl).more (Nat.le_succ _)
        rw [if_neg h5] at hz' ⊢
        by_cases h6 : kd = 6
        · rw [if_pos h6]; exact (hsp.same (r' := rdo6 r.spent nm to _) rfl rfl).more (Nat.le_succ _)
        · rw [if_neg h6]; exact (hsp.same (r' := rdo7 r.spent nm) rfl rfl).more (Nat.le_succ _)
      · exact hsp.more (Nat.le_succ _)
/-- A crash leaves no file longer than any was. -/
theorem lfR_len {st : List (List Nat)} {gr : List Int} {n : Nat} (h : FOk st gr n) (ps : List Int) : (lfR st gr ps).1.length ≤ 1073741824 := by
  unfold lfR
  split
  · rename_i hc
    rw [List.length_append, List.length_take, List.length_drop]
    have h1 := h.sz (upV ps (st.length - 1) + 1)
    have h2 := h.gw _ hc.1 hc.2
    have h3 := hc.2
    omega
  · exact h.sz _
theorem crL2_each (p : Ps) (C : List Nat → Prop) : ∀ (l : List (Nm × Nat)) (ps : List Int), (∀ x ∈ l, ∀ qs, C (lfP p x.2 qs).1) → ∀ q ∈ crL2 p l ps, C q.2
  | [], ps, h, q, hq => by simp [crL2] at hq
  | x :: l, ps, h, q, hq => by
    rw [crL2] at hq
    rcases List.mem_cons.mp hq with e | e
    · rw [e]; exact h x List.mem_cons_self ps
    · exact crL2_each p C l _ (fun y hy => h y (List.mem_cons_of_mem _ hy)) q e
theorem RInv.crash {r : Rk} {n : Nat} (h : RInv r n) (hb : r.Bd) (ps : List Int) : ∀ q ∈ crR r.ps ps, q.2.length ≤ 1073741824 := by
  have hd1 := hb.ok.d1
  have hup := upV_le ps (r.ps.dirs.length - 1)
  refine crL2_each r.ps (fun l => l.length ≤ 1073741824) _ _ (fun x hx qs => ?_)
  have hf := hb.ok.ps.ref _ (by omega) x hx
  exact lfR_len (h.fo _ hf) qs
/-- All that is kept. -/
structure BInv (k : Dk) (r : Rk) (n : Nat) : Prop where
  rl : ∃ ν, Rl k ν r
  dok : k.Dok n
  past : k.Past
  sum : k.Sum
  nmd : k.Nmd
  inv : RInv r n
theorem Dk.Nmd.ne {k : Dk} (h : k.Nmd) : ∀ q ∈ k.L, q.1 ≠ [] := fun q hq e => by
  have := h q hq
  rw [e] at this
  simp [nmL] at this
end Go.Proofs.YthcnhjmkcekdaaaGreat

namespace Go.Proofs.YthcnhjmkcekdaaaGreat
open Go.RowKit Go.Maps Plain
set_option linter.unusedVariables false
set_option linter.unusedSimpArgs false
def DirOk (l : List (Nm × Nat)) : Prop := l.length ≤ 65536 ∧ ∀ x ∈ l, nmL x.1 = true
def DInv (r : Rk) : Prop := ∀ l ∈ r.ps.dirs, DirOk l
theorem left_sub (l : List (Nm × Nat)) (s : Nm) : (leftL l s).length ≤ l.length ∧ ∀ x ∈ leftL l s, x ∈ l := ⟨List.length_filter_le _ _, fun x hx => (List.mem_filter.mp hx).1⟩
theorem DirOk.left {l : List (Nm × Nat)} (h : DirOk l) (s : Nm) : DirOk (leftL l s) := ⟨Nat.le_trans (left_sub l s).1 h.1, fun x hx => h.2 x ((left_sub l s).2 x hx)⟩
theorem DirOk.with {l : List (Nm × Nat)} (h : DirOk l) {x : Nm × Nat} (hl : l.length < 65536) (hx : nmL x.1 = true) : DirOk (withL l x) := ⟨by rw [withL_len]; omega, fun y hy => by
  rcases List.mem_cons.mp ((withL_perm l x).mem_iff.mp hy) with e | e
  · rw [e]; exact hx
  · exact h.2 y e⟩
theorem left_less {l : List (Nm × Nat)} {s : Nm} {x : Nm × Nat} (hx : x ∈ l) (hs : x.1 = s) : (leftL l s).length < l.length := by
  unfold leftL
  refine List.length_filter_lt_length_iff_exists.mpr ⟨x, hx, ?_⟩
  simp [hs]
theorem rfs1_zero {p : Ps} {nm : ByteArray} (h : rfs1 p nm = 0) : nmL nm.data.toList = true ∧ p.last.length < 65536 := by
  unfold rfs1 at h
  split at h
  · rename_i h1
    split at h
    · cases h
    · split at h
      · cases h
      · exact ⟨h1, by omega⟩
  · cases h
theorem rfs6_zero {p : Ps} {nm to : ByteArray} (h : rfs6 p nm to = 0) : nmL to.data.toList = true := by
  unfold rfs6 at h
  split at h
  · split at h
    · assumption
    · cases h
  · cases h
theorem DInv.last {r : Rk} (h : DInv r) (h1 : 1 ≤ r.ps.dirs.length) : DirOk r.ps.last := by
  refine h _ ?_
  unfold Ps.last
  rw [List.getD_eq_getElem?_getD, List.getElem?_eq_getElem (by omega)]
  exact List.getElem_mem _
theorem DInv.step {r : Rk} (h : DInv r) (hb : r.Bd) (kd : Int) (nm to : ByteArray) (m : Int) (b : List Nat) : DInv (doR r kd nm to m b).2 := by
  have hfs : r.spent.ps = r.ps := Rk.spent_ps r
  have hsp : DInv r.spent := by unfold DInv; rw [hfs]; exact h
  have hla : DirOk r.spent.ps.last := hsp.last (by rw [hfs]; exact hb.ok.d1)
  have hap : ∀ (q : Rk) (l : List (Nm × Nat)), q.ps.dirs = r.spent.ps.dirs ++ [l] → DirOk l → DInv q := fun q l e hl x hx => by
    rw [e] at hx
    rcases List.mem_append.mp hx with e2 | e2
    · exact hsp x e2
    · rw [List.mem_singleton.mp e2]; exact hl
  unfold doR doX
  split
  · exact h
  · split
    · exact h
    · rename_i hz
      have hz' : rfR r kd nm to m b = 0 := Decidable.byContradiction hz
      split
      · show DInv (goR r kd nm to m b r.spent)
        unfold goR
        unfold rfR at hz'
        by_cases h1 : kd = 1
        · rw [if_pos h1] at hz' ⊢
          obtain ⟨q1, q2⟩ := rfs1_zero hz'
          exact hap _ _ rfl (hla.with (by rw [hfs]; exact q2) q1)
        rw [if_neg h1] at hz' ⊢
        by_cases h2 : kd = 2
        · rw [if_pos h2]; exact hsp
        rw [if_neg h2] at hz' ⊢
        by_cases h3 : kd = 3
        · rw [if_pos h3]; exact hsp
        rw [if_neg h3] at hz' ⊢
        by_cases h4 : kd = 4
        · rw [if_pos h4]; exact hsp
        rw [if_neg h4] at hz' ⊢
        by_cases h5 : kd = 5
        · rw [if_pos h5]
          intro l hl
          have : l = r.spent.ps.last := by simpa [rdo5] using hl
          rw [this]; exact hla
        rw [if_neg h5] at hz' ⊢
        by_cases h6 : kd = 6
        · rw [if_pos h6] at hz' ⊢
          refine hap _ _ rfl (((hla.left _).left _).with ?_ (rfs6_zero hz'))
          have hm := lead_mem (rfs6_lead hz')
          rw [hfs] at hla ⊢
          have a1 : (leftL r.ps.last nm.data.toList).length < r.ps.last.length := left_less hm rfl
          have a2 := (left_sub (leftL r.ps.last nm.data.toList) to.data.toList).1
          have a3 := hla.1
          omega
        · rw [if_neg h6]; exact hap _ _ rfl (hla.left _)
      · exact hsp
theorem DInv.born {q : Int} {im : List (Nm × List Nat)} (hl : im.length ≤ 65536) (hn : ∀ p ∈ im, nmL p.1 = true) : DInv (rkB q im) := fun l h => by
  have : l = dirI im 0 := by simpa [rkB] using h
  rw [this]
  refine ⟨by rw [dirI_len]; exact hl, fun x hx => ?_⟩
  have h1 : x.1 ∈ (dirI im 0).map (·.1) := List.mem_map.mpr ⟨x, hx, rfl⟩
  rw [dirI_names] at h1
  obtain ⟨p, hp, e⟩ := List.mem_map.mp h1
  rw [← e]; exact hn p hp
theorem DInv.zero (q : Int) : DInv (rk0 q) := fun l h => by
  have : l = [] := by simpa [rk0] using h
  rw [this]
  exact ⟨by simp, by simp⟩
theorem crL2_names (p : Ps) : ∀ (l : List (Nm × Nat)) (ps : List Int), (crL2 p l ps).map (·.1) = l.map (·.1)
  | [], ps => rfl
  | x :: l, ps => by rw [crL2, List.map_cons, List.map_cons, crL2_names p l]
theorem sum_le_mul (B : Nat) : ∀ (l : List Nat), (∀ x ∈ l, x ≤ B) → l.sum ≤ l.length * B
  | [], h => by simp
  | x :: l, h => by
    have h1 := h x List.mem_cons_self
    have h2 := sum_le_mul B l (fun y hy => h y (List.mem_cons_of_mem _ hy))
    rw [List.sum_cons, List.length_cons, Nat.succ_mul]
    omega
/-- An image that may be loaded. -/
theorem imOk_of {im : List (Nm × List Nat)} (few : im.length ≤ 65536) (hn : ∀ p ∈ im, nmL p.1 = true) (hp : im.Pairwise fun a b => a.1 < b.1) (hs : ∀ p ∈ im, p.2.length ≤ 1073741824) : ImOk im := by
  refine ⟨few, hn, fun p hp => ?_, fun i p q h1 h2 => ?_, ?_, ?_⟩
  · have := hn p hp
    unfold nmL at this
    rw [str_size]
    simp only [Bool.and_eq_true, decide_eq_true_eq] at this
    unfold maxLen
    omega
  · obtain ⟨a1, a2⟩ := List.getElem?_eq_some_iff.mp h1
    obtain ⟨b1, b2⟩ := List.getElem?_eq_some_iff.mp h2
    have := List.pairwise_iff_getElem.mp hp i (i + 1) a1 b1 (Nat.lt_succ_self _)
    rw [a2, b2] at this
    exact leB_false (List.le_of_lt this) (fun e => List.lt_irrefl _ (by rw [e] at this; exact this))
  · have : (im.map (·.1)).Pairwise (· < ·) := List.pairwise_map.mpr hp
    exact List.Pairwise.imp (S := (· ≠ ·)) (fun {a b} h e => List.lt_irrefl b (by rw [e] at h; exact h)) this
  · have h1 := sum_le_mul 1073741824 (im.map fun p => p.2.length) (fun x hx => by
      obtain ⟨p, hp, e⟩ := List.mem_map.mp hx
      rw [← e]; exact hs p hp)
    rw [List.length_map] at h1
    have h2 : im.length * 1073741824 ≤ 65536 * 1073741824 := Nat.mul_le_mul_right _ few
    omega
theorem crash_ok {r : Rk} {n : Nat} (hd : DInv r) (ha : ∀ l ∈ r.ps.dirs, Asc l) (hi : RInv r n) (hb : r.Bd) (ps : List Int) : ImOk (crR r.ps ps) ∧ (crR r.ps ps).Pairwise (fun a b => a.1 < b.1) := by
  have hd1 := hb.ok.d1
  have hup := upV_le ps (r.ps.dirs.length - 1)
  have hmem : r.ps.dirs.getD (upV ps (r.ps.dirs.length - 1)) [] ∈ r.ps.dirs := by
    rw [List.getD_eq_getElem?_getD, List.getElem?_eq_getElem (by omega)]
    exact List.getElem_mem _
  have hnm : (crR r.ps ps).map (·.1) = (r.ps.dirs.getD (upV ps (r.ps.dirs.length - 1)) []).map (·.1) := crL2_names _ _ _
  have hpw : (crR r.ps ps).Pairwise (fun a b => a.1 < b.1) := by
    have h1 : ((crR r.ps ps).map (·.1)).Pairwise (· < ·) := by
      rw [hnm]
      exact List.pairwise_map.mpr (ha _ hmem)
    exact List.pairwise_map.mp h1
  have hok := hd _ hmem
  refine ⟨imOk_of ?_ (fun p hp => ?_) hpw (hi.crash hb ps), hpw⟩
  · have := congrArg List.length hnm
    rw [List.length_map, List.length_map] at this
    rw [this]; exact hok.1
  · have h1 : p.1 ∈ (crR r.ps ps).map (·.1) := List.mem_map.mpr ⟨p, hp, rfl⟩
    rw [hnm] at h1
    obtain ⟨x, hx, e⟩ := List.mem_map.mp h1
    rw [← e]; exact hok.2 x hx
end Go.Proofs.YthcnhjmkcekdaaaGreat

namespace Go.Proofs.YthcnhjmkcekdaaaGreat
open Go.RowKit Go.Maps Plain
set_option linter.unusedVariables false
set_option linter.unusedSimpArgs false
theorem BInv.bd {k : Dk} {r : Rk} {n : Nat} (h : BInv k r n) (hn : n ≤ 2000000000000) : r.Bd := by
  obtain ⟨ν, hr⟩ := h.rl
  exact hr.bd h.dok h.past h.sum h.inv hn
theorem BInv.more {k : Dk} {r : Rk} {n m : Nat} (h : BInv k r n) (hm : n ≤ m) : BInv k r m := ⟨h.rl, h.dok.more hm, h.past, h.sum, h.nmd, h.inv.more hm⟩
theorem BInv.ch {k : Dk} {r : Rk} {n G : Nat} (h : BInv k r n) (hd : DInv r) (hn : n ≤ 2000000000000) (hG : ¬ k.live G) {kd m : Int} {nm to : ByteArray} {b : List Nat} (hs : nm.size ≤ maxLen) (ht : to.size ≤ maxLen) : (chK k kd nm to m b G).1 = (doR r kd nm to m b).1 ∧ BInv (chK k kd nm to m b G).2 (doR r kd nm to m b).2 (n + 1) ∧ DInv (doR r kd nm to m b).2 := by
  have hb := h.bd hn
  obtain ⟨ν, hr⟩ := h.rl
  obtain ⟨ν', e1, e2⟩ := hr.ch h.dok h.past h.sum h.nmd.ne hG kd nm to m b
  exact ⟨e1, ⟨⟨ν', e2⟩, chK_dok h.dok h.sum.uok hs ht (by omega), h.past.chK h.dok, chK_sum h.sum h.dok.ok.refs hG, h.nmd.chK, h.inv.step hb kd nm to m b⟩, hd.step hb kd nm to m b⟩
theorem BInv.fuse {k : Dk} {r : Rk} {n : Nat} (h : BInv k r n) {z : Int} (hz : I64 z) : BInv (fuseK k z) (r.fuses z) n := by
  obtain ⟨ν, hr⟩ := h.rl
  have hrf : RInv (r.fuses z) n := by
    unfold Rk.fuses
    split
    · exact h.inv
    · exact h.inv.same rfl rfl
  refine ⟨⟨ν, hr.fuse z⟩, ?_, ?_, ?_, ?_, hrf⟩
  all_goals unfold fuseK
  all_goals split
  all_goals first
    | exact h.dok
    | exact h.past
    | exact h.sum
    | exact h.nmd
    | exact ⟨⟨h.dok.ok.refs, h.dok.ok.fok, h.dok.ok.ops, fun e => ⟨by simpa [Dk.fuses] using e, hz.2⟩⟩, h.dok.dir, h.dok.eq, h.dok.cnt, h.dok.few⟩
    | exact ⟨h.past.ld, h.past.made, h.past.few⟩
    | exact ⟨h.sum.keys, h.sum.files, h.sum.used, h.sum.quota, h.sum.lim⟩
theorem DInv.fuse {r : Rk} (h : DInv r) (z : Int) : DInv (r.fuses z) := by
  unfold Rk.fuses
  split
  · exact h
  · exact h
theorem BInv.quotas {k : Dk} {r : Rk} {n : Nat} (h : BInv k r n) {q : Int} (hq : qB q = true) : BInv (k.quotas q) (r.quotas q) n := by
  obtain ⟨ν, hr⟩ := h.rl
  have hq' : 0 ≤ q ∧ q ≤ 1073741824 := by simpa [qB] using hq
  exact ⟨⟨ν, hr.quotas q⟩, ⟨⟨h.dok.ok.refs, h.dok.ok.fok, h.dok.ok.ops, h.dok.ok.fuse⟩, h.dok.dir, h.dok.eq, h.dok.cnt, h.dok.few⟩, ⟨h.past.ld, h.past.made, h.past.few⟩, ⟨h.sum.keys, h.sum.files, h.sum.used, hq', h.sum.lim⟩, h.nmd, h.inv.same rfl rfl⟩
theorem BInv.zero {q : Int} (hq : qB q = true) (n : Nat) : BInv (Dk.fresh q) (rk0 q) n := by
  have hq' : 0 ≤ q ∧ q ≤ 1073741824 := by simpa [qB] using hq
  have hl := LdI.start hq'.1 hq'.2
  refine ⟨⟨_, Rl.zero q⟩, (fresh_dok q).more (Nat.zero_le _), ⟨fun p hp => by simp [Dk.fresh] at hp, fun nm g hg => by simp [Dk.fresh] at hg, by simp [Dk.fresh]⟩, hl.sum, hl.nmd, ⟨by simp [rk0], rfl, fun f hf => by simp [rk0] at hf⟩⟩
theorem BInv.born {q : Int} {xs : List ((Nm × List Nat) × Nat)} {k : Dk} {im : List (Nm × List Nat)} {n : Nat} (h : LdI q xs k) (hx : xs.map (·.1) = im) (hup : im.Pairwise fun a b => a.1 < b.1) (hl : im.length ≤ 65536) (hs : ∀ p ∈ im, p.2.length ≤ 1073741824) (hn : 65536 ≤ n) : BInv k.settled (rkB q im) n := by
  obtain ⟨a1, a2, a3, -⟩ := h.done
  have hxl : xs.length = im.length := by rw [← hx, List.length_map]
  exact ⟨Rl.born h hx hup, a1.dok.more (by omega), a2, a1.sum, a3, RInv.born (by omega) hs⟩
/-- What both tell of themselves. -/
theorem BInv.facts {k : Dk} {r : Rk} {n : Nat} (h : BInv k r n) : (usedN r.ps r.ps.last : Int) = k.used ∧ r.most = k.quota ∧ r.off = k.dead ∧ r.done = k.ops ∧ rimL r.ps r.ps.last = imK k ∧ r.ps.last.map (·.1) = nms k.L := by
  obtain ⟨ν, hr⟩ := h.rl
  exact ⟨hr.used h.dok h.sum, hr.most, hr.off, hr.done, hr.image h.dok, hr.list h.dok⟩
theorem BInv.crash {k : Dk} {r : Rk} {n : Nat} (h : BInv k r n) (hn : n ≤ 2000000000000) (ps : List Int) : crR r.ps ps = crK k ps := by
  obtain ⟨ν, hr⟩ := h.rl
  exact hr.crash h.dok ps (h.past.crash h.dok hn ps).1
theorem BInv.asc {k : Dk} {r : Rk} {n : Nat} (h : BInv k r n) : ∀ l ∈ r.ps.dirs, Asc l := by
  obtain ⟨ν, hr⟩ := h.rl
  exact hr.asc
theorem BInv.fnd {k : Dk} {r : Rk} {n : Nat} (h : BInv k r n) (hk : k.dead = false) (nm : ByteArray) : (Go.Proofs.YthcnhjmkcekdaaaGreat.fnd k.dead k.L nm).2 = rfs4 r.ps nm := by
  obtain ⟨ν, hr⟩ := h.rl
  exact hr.fndEq h.dok hk nm
end Go.Proofs.YthcnhjmkcekdaaaGreat

namespace Go.Proofs.YthcnhjmkcekdaaaGreat
open Go.RowKit Go.Maps Plain
set_option linter.unusedVariables false
set_option linter.unusedSimpArgs false
/-- v is a slice of texts that reads as ns. -/
def TxR (w : World) (v : Value) (ns : List Nm) : Prop := ∃ a cap, v = .slice a ns.length cap ∧ ns.length ≤ 9223372036854775807 ∧ (ns ≠ [] → ∃ b, a = some ⟨b, 0, none⟩ ∧ ∀ j k, ns[j]? = some k → w.cell? ⟨b, j, none⟩ = some (.string (str k)))
theorem TxR.of {w : World} {v : Value} {ns : List Nm} {r : Option Nat} (h : OwnV w v (ns.map encStr) r) : TxR w v ns := by
  obtain ⟨a, cap, e, h1, h2⟩ := h.shape
  rw [List.length_map] at e h2
  refine ⟨a, cap, e, by unfold maxLen at *; omega, fun hne => ?_⟩
  have h0 : 0 < ns.length := List.length_pos_iff.mpr hne
  have key : ∀ j k, ns[j]? = some k → ∃ b, a = some ⟨b, 0, none⟩ ∧ w.cell? ⟨b, j, none⟩ = some (.string (str k)) := fun j k hj => by
    have hg : (ns.map encStr)[j]? = some (encStr k) := by rw [List.getElem?_map, hj]; rfl
    rw [e] at h
    obtain ⟨g, -, e2, e3⟩ := h.get hg
    exact ⟨g, e2, e3⟩
  obtain ⟨b, eb, -⟩ := key 0 _ (List.getElem?_eq_getElem h0)
  refine ⟨b, eb, fun j k hj => ?_⟩
  obtain ⟨b', eb', hc⟩ := key j k hj
  rw [eb] at eb'
  cases eb'
  exact hc
set_option maxHeartbeats 4000000 in
set_option maxRecDepth 1000000 in
theorem sameTextsEq (v1 v2 : Value) (ns : List Nm) (w : World) (h1 : TxR w v1 ns) (h2 : TxR w v2 ns) : Calls Tryz.prog 64 #[v1, v2] w fun e w' => e = .returned (.bool true) ∧ Below w.heap.size w w' := by
  obtain ⟨a1, c1, rfl, p1, p3⟩ := h1
  obtain ⟨a2, c2, rfl, -, q3⟩ := h2
  have HP3 := Hid.mkR p3
  have HQ3 := Hid.mkR q3
  clear p3 q3
  go_enter Tryz.func64, Tryz.ntmps64
  go_wp2
  go_loopg [5] ns.length (fun gk s5 wx => ∃ (i n : Nat), i + gk = ns.length ∧ s5 = .int .i64 i ∧ wx = w.drewN n)
  case atStart => exact ⟨0, 0, by omega, rfl, rfl⟩
  case round =>
    obtain ⟨i, n, hi, rfl, hwr⟩ := hrel
    have HWR : Hid (wr = w.drewN n) := hwr
    clear hwr
    cases gk with
    | zero =>
      obtain rfl : i = ns.length := by omega
      go_wp2
      go_ret
      exact ⟨rfl, by rw [HWR.out]; exact below_drewN' w n⟩
    | succ gk1 =>
      have hil : i < ns.length := by omega
      have hne : ns ≠ [] := by rintro rfl; simp at hil
      obtain ⟨k, hkl⟩ : ∃ p, ns[i]? = some p := ⟨_, List.getElem?_eq_getElem hil⟩
      obtain ⟨b1, rfl, f1⟩ := HP3.out hne
      obtain ⟨b2, rfl, f2⟩ := HQ3.out hne
      have g1 : wr.cell? ⟨b1, i, none⟩ = some (.string (str k)) := by rw [HWR.out]; exact f1 i k hkl
      have g4 : wr.cell? ⟨b2, i, none⟩ = some (.string (str k)) := by rw [HWR.out]; exact f2 i k hkl
      have hsk : decide (str k ≠ str k) = false := by simp
      clear f1 f2 hkl hne
      generalize str k = sk at *
      go_wp2
      go_quiet (fail)
      go_wp2
      go_roundg gk1
      case measure => omega
      case rel => exact ⟨i + 1, _, by omega, by go_num, by rw [HWR.out, World.drewN_drewN]⟩
end Go.Proofs.YthcnhjmkcekdaaaGreat

namespace Go.Proofs.YthcnhjmkcekdaaaGreat
open Go.RowKit Go.Maps Plain
set_option linter.unusedVariables false
set_option linter.unusedSimpArgs false
def BoAt (W : World) (gb d gp : Nat) (k : Dk) (r : Rk) (w : World) : Prop := Below W.heap.size W w ∧ w.heap[gb]? = some (.cells #[.pointer (some ⟨d, 0, none⟩), .pointer (some ⟨gp, 0, none⟩)] 32) ∧ W.heap.size ≤ gb ∧ ∃ S T, DiskAt w d k S ∧ RdAt w gp r T ∧ (∀ x, S x → ¬ T x ∧ x ≠ gb ∧ W.heap.size ≤ x) ∧ ∀ x, T x → W.heap.size ≤ x ∧ x < w.heap.size ∧ x ≠ gb
theorem BoAt.box {W w : World} {gb d gp : Nat} {k : Dk} {r : Rk} (h : BoAt W gb d gp k r w) : w.cell? ⟨gb, 0, none⟩ = some (.pointer (some ⟨d, 0, none⟩)) ∧ w.cell? ⟨gb, 1, none⟩ = some (.pointer (some ⟨gp, 0, none⟩)) ∧ w.frozen? ⟨gb, 0, none⟩ = false ∧ w.frozen? ⟨gb, 1, none⟩ = false := by
  have := h.2.1
  simp [World.cell?, World.frozen?, this]
theorem BoAt.below {W w : World} {gb d gp : Nat} {k : Dk} {r : Rk} (h : BoAt W gb d gp k r w) : Below W.heap.size W w := h.1
theorem BoAt.later {W w w' : World} {gb d gp : Nat} {k : Dk} {r : Rk} (h : BoAt W gb d gp k r w) (hb : Below w.heap.size w w') : BoAt W gb d gp k r w' := by
  obtain ⟨h0, hx, hg, S, T, h1, h2, h3, h4⟩ := h
  have hgl := (Array.getElem?_eq_some_iff.mp hx).1
  exact ⟨h0.trans (hb.mono h0.size), (hb.block gb hgl).trans hx, hg, S, T, h1.later hb, h2.frame hb.size (fun x hx => hb.block x (h4 x hx).2.1), h3, fun x hx => ⟨(h4 x hx).1, Nat.lt_of_lt_of_le (h4 x hx).2.1 hb.size, (h4 x hx).2.2⟩⟩
/-- What an operation on the program's disk keeps alone. -/
def boP (W : World) (gb : Nat) (T : Nat → Prop) (x : Nat) : Prop := x < W.heap.size ∨ T x ∨ x = gb
theorem BoAt.disk {W w : World} {gb d gp : Nat} {k : Dk} {r : Rk} (h : BoAt W gb d gp k r w) : ∃ T, DskP (boP W gb T) w d k w ∧ ∀ (k' : Dk) (w' : World), DskP (boP W gb T) w d k' w' → BoAt W gb d gp k' r w' := by
  obtain ⟨h0, hx, hg, S, T, h1, h2, h3, h4⟩ := h
  have hs := h0.size
  have hgl := (Array.getElem?_eq_some_iff.mp hx).1
  refine ⟨T, ⟨Keep.refl (fun x hx => hx.elim (fun e => by omega) (fun e => e.elim (fun e2 => (h4 x e2).2.1) (fun e2 => by rw [e2]; exact hgl))), S, h1, fun x hx hp => hp.elim (fun e => by have := (h3 x hx).2.2; omega) (fun e => e.elim (h3 x hx).1 (h3 x hx).2.1)⟩, fun k' w' hk => ?_⟩
  obtain ⟨g1, S', g2, g3⟩ := hk
  refine ⟨⟨g1.os.trans h0.os, g1.tape.trans h0.tape, g1.output.trans h0.output, Nat.le_trans hs g1.size, fun x hx => (g1.block x (.inl hx)).trans (h0.block x hx)⟩, (g1.block gb (.inr (.inr rfl))).trans hx, hg, S', T, g2, h2.frame g1.size (fun x hx => g1.block x (.inr (.inl hx))), fun x hx => ⟨fun ht => g3 x hx (.inr (.inl ht)), fun e => g3 x hx (.inr (.inr e)), ?_⟩, fun x hx => ⟨(h4 x hx).1, Nat.lt_of_lt_of_le (h4 x hx).2.1 g1.size, (h4 x hx).2.2⟩⟩
  exact Nat.le_of_not_lt fun e => g3 x hx (.inl e)
theorem BoAt.doc {W w : World} {gb d gp : Nat} {k : Dk} {r : Rk} (h : BoAt W gb d gp k r w) : ∃ T, RdAt w gp r T ∧ (∀ x, T x → W.heap.size ≤ x) ∧ ∀ (r' : Rk) (w' : World), RtP gp r' T w w' → BoAt W gb d gp k r' w' := by
  obtain ⟨h0, hx, hg, S, T, h1, h2, h3, h4⟩ := h
  have hs := h0.size
  have hgl := (Array.getElem?_eq_some_iff.mp hx).1
  refine ⟨T, h2, fun x hx => (h4 x hx).1, fun p' w' hk => ?_⟩
  obtain ⟨g1, g2⟩ := hk
  have hs2 := g2.size
  have hsl : ∀ x, S x → x < w.heap.size := h1.rng
  refine ⟨⟨g2.os.trans h0.os, g2.tape.trans h0.tape, g2.output.trans h0.output, by omega, fun x hx => (g2.block x (by omega) (fun e => by have := (h4 x e).1; omega)).trans (h0.block x hx)⟩, (g2.block gb hgl (fun e => (h4 gb e).2.2 rfl)).trans hx, hg, S, Ext T w w', h1.apart g2 (fun x hx => (h3 x hx).1), g1, fun x hx => ⟨fun ht => ?_, (h3 x hx).2⟩, fun x hx => ?_⟩
  · rcases ht with e | e
    · exact (h3 x hx).1 e
    · have := hsl x hx; have := e.1; omega
  · rcases hx with e | e
    · exact ⟨(h4 x e).1, by have := (h4 x e).2.1; omega, (h4 x e).2.2⟩
    · exact ⟨by have := e.1; omega, e.2, by have := e.1; omega⟩
/-- All that the law keeps. -/
def BoI (W : World) (gb : Nat) (n : Nat) (w : World) : Prop := ∃ d gp k r, BoAt W gb d gp k r w ∧ BInv k r n ∧ DInv r
end Go.Proofs.YthcnhjmkcekdaaaGreat

namespace Go.Proofs.YthcnhjmkcekdaaaGreat
open Go.RowKit Go.Maps Plain
set_option linter.unusedVariables false
set_option linter.unusedSimpArgs false
/-- Two disks that share nothing, and have nothing to do with the blocks Q. -/
def Duo (Q : Nat → Prop) (a b : Nat) (ka kb : Dk) (w : World) : Prop :=
  ∃ S T, DiskAt w a ka S ∧ DiskAt w b kb T ∧ (∀ x, S x → ¬ T x ∧ ¬ Q x) ∧ (∀ x, T x → ¬ Q x) ∧ ∀ x, Q x → x < w.heap.size
theorem Keep.sub {P Q : Nat → Prop} {W w : World} (h : Keep P W w) (hq : ∀ x, Q x → P x) : Keep Q W w := ⟨h.os, h.tape, h.output, h.size, fun x hx => h.lt x (hq x hx), fun x hx => h.block x (hq x hx)⟩
theorem Keep.trans {P : Nat → Prop} {W w w' : World} (h : Keep P W w) (k : Keep P w w') : Keep P W w' := ⟨k.os.trans h.os, k.tape.trans h.tape, k.output.trans h.output, Nat.le_trans h.size k.size, h.lt, fun x hx => (k.block x hx).trans (h.block x hx)⟩
theorem Duo.left {Q : Nat → Prop} {a b : Nat} {ka kb : Dk} {w : World} (h : Duo Q a b ka kb w) : ∃ P, DskP P w a ka w ∧ (∀ x, Q x → P x) ∧ ∀ ka' w', DskP P w a ka' w' → Duo Q a b ka' kb w' ∧ Keep Q w w' := by
  obtain ⟨S, T, h1, h2, h3, h4, h5⟩ := h
  refine ⟨fun x => Q x ∨ T x, ⟨Keep.refl (fun x hx => ?_), S, h1, fun x hx hp => ?_⟩, fun x hx => .inl hx, fun ka' w' hd => ?_⟩
  · rcases hx with hx | hx
    · exact h5 x hx
    · exact h2.rng x hx
  · rcases hp with hp | hp
    · exact (h3 x hx).2 hp
    · exact (h3 x hx).1 hp
  · obtain ⟨k1, S', d1, d2⟩ := hd
    refine ⟨⟨S', T, d1, h2.frame k1.size (fun x hx => k1.block x (.inr hx)), fun x hx => ⟨fun ht => d2 x hx (.inr ht), fun hq => d2 x hx (.inl hq)⟩, h4, fun x hx => Nat.lt_of_lt_of_le (h5 x hx) k1.size⟩, k1.sub (fun x hx => .inl hx)⟩
theorem Duo.right {Q : Nat → Prop} {a b : Nat} {ka kb : Dk} {w : World} (h : Duo Q a b ka kb w) : ∃ P, DskP P w b kb w ∧ (∀ x, Q x → P x) ∧ ∀ kb' w', DskP P w b kb' w' → Duo Q a b ka kb' w' ∧ Keep Q w w' := by
  obtain ⟨S, T, h1, h2, h3, h4, h5⟩ := h
  refine ⟨fun x => Q x ∨ S x, ⟨Keep.refl (fun x hx => ?_), T, h2, fun x hx hp => ?_⟩, fun x hx => .inl hx, fun kb' w' hd => ?_⟩
  · rcases hx with hx | hx
    · exact h5 x hx
    · exact h1.rng x hx
  · rcases hp with hp | hp
    · exact h4 x hx hp
    · exact (h3 x hp).1 hx
  · obtain ⟨k1, T', d1, d2⟩ := hd
    refine ⟨⟨S, T', h1.frame k1.size (fun x hx => k1.block x (.inr hx)), d1, fun x hx => ⟨fun ht => d2 x ht (.inr hx), (h3 x hx).2⟩, fun x hx hq => d2 x hx (.inl hq), fun x hx => Nat.lt_of_lt_of_le (h5 x hx) k1.size⟩, k1.sub (fun x hx => .inl hx)⟩
theorem Duo.later {Q : Nat → Prop} {a b : Nat} {ka kb : Dk} {w w' : World} (h : Duo Q a b ka kb w) (hb : Below w.heap.size w w') : Duo Q a b ka kb w' := by
  obtain ⟨S, T, h1, h2, h3, h4, h5⟩ := h
  exact ⟨S, T, h1.later hb, h2.later hb, h3, h4, fun x hx => Nat.lt_of_lt_of_le (h5 x hx) hb.size⟩
/-- What has come since is guarded too. -/
theorem Duo.guard {Q : Nat → Prop} {a b : Nat} {ka kb : Dk} {w w' : World} (h : Duo Q a b ka kb w) (hb : Below w.heap.size w w') : Duo (fun x => Q x ∨ (w.heap.size ≤ x ∧ x < w'.heap.size)) a b ka kb w' := by
  obtain ⟨S, T, h1, h2, h3, h4, h5⟩ := h
  have hs := hb.size
  refine ⟨S, T, h1.later hb, h2.later hb, fun x hx => ⟨(h3 x hx).1, fun hq => ?_⟩, fun x hx hq => ?_, fun x hx => ?_⟩
  · rcases hq with hq | hq
    · exact (h3 x hx).2 hq
    · have := h1.rng x hx; omega
  · rcases hq with hq | hq
    · exact h4 x hx hq
    · have := h2.rng x hx; omega
  · rcases hx with hx | hx
    · have := h5 x hx; omega
    · exact hx.2
theorem deadP {P : Nat → Prop} {W w1 : World} {d : Nat} {k : Dk} (h : DskP P W d k w1) : Calls Tryz.prog 26 #[.pointer (some ⟨d, 0, none⟩)] w1 fun e w2 => e = .returned (.bool k.dead) ∧ w2 = w1 := by
  obtain ⟨h1, S, h2, h3⟩ := h
  exact deadOf (St.start h2)
theorem opsP {P : Nat → Prop} {W w1 : World} {d : Nat} {k : Dk} (h : DskP P W d k w1) : Calls Tryz.prog 28 #[.pointer (some ⟨d, 0, none⟩)] w1 fun e w2 => e = .returned (.int .i64 k.ops) ∧ w2 = w1 := by
  obtain ⟨h1, S, h2, h3⟩ := h
  exact opsOf (St.start h2)
theorem fuseP {P : Nat → Prop} {W w1 : World} {d : Nat} {k : Dk} (h : DskP P W d k w1) (n : Int) (hn : I64 n) : Calls Tryz.prog 18 #[.pointer (some ⟨d, 0, none⟩), .int .i64 n] w1 fun e w2 => e = .returned (.tuple #[]) ∧ DskP P W d (fuseK k n) w2 := by
  obtain ⟨h1, S, h2, h3⟩ := h
  refine (fuseOf (St.start h2) n hn.1 hn.2).mono ?_
  rintro e w2 ⟨rfl, hp⟩
  exact ⟨rfl, DskP.ofSt h1 h3 hp⟩
theorem crashP {P : Nat → Prop} {W w1 : World} {d n : Nat} {k : Dk} {a : Option Addr} {m c : Nat} {ps : List Int} (h : DskP P W d k w1) (hk : k.Dok n) (hp : k.Past) (hn : n ≤ 2000000000000) (hps : PicksAt w1 (.slice a m c) ps) (hpo : PicksOff w1.heap.size (.slice a m c)) :
    Calls Tryz.prog 20 #[.pointer (some ⟨d, 0, none⟩), .slice a m c] w1 fun e w2 => ∃ a l c, e = .returned (.slice a l c) ∧ ImgAt w2 (.slice a l c) (crK k ps) w1.heap.size ∧ Below w1.heap.size w1 w2 := by
  obtain ⟨h1, S, h2, h3⟩ := h
  obtain ⟨c1, c2⟩ := hp.crash hk hn ps
  exact crashOf w1 d k n S h2 hk a m c ps hps hpo c1 c2
end Go.Proofs.YthcnhjmkcekdaaaGreat
