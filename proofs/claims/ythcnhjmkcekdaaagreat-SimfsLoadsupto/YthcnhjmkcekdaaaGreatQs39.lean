import Derived.Test.YthcnhjmkcekdaaaGreatQs38
namespace Go.Proofs.YthcnhjmkcekdaaaGreat
open Go.RowKit Go.Maps Plain
set_option linter.unusedVariables false
set_option linter.unusedSimpArgs false
theorem Rl.used {k : Dk} {ν : Nat → Nat} {r : Rk} {n : Nat} (h : Rl k ν r) (hd : k.Dok n) (hu : k.Sum) : (usedN r.ps r.ps.last : Int) = k.used := by
  obtain ⟨s1, s2, -⟩ := h.ps.seen hd
  have h1 : usedN r.ps r.ps.last = (k.L.map fun q => (k.file q.2).seen.length).sum := by
    unfold usedN
    rw [(s1.map _).sum_nat]
    rw [List.map_map]
    congr 1
    refine List.map_congr_left (fun q hq => ?_)
    show (r.ps.now (ν q.2)).length = _
    rw [h.now hd (hd.ok.refs q hq)]
  rw [h1]
  exact hu.used.symm
theorem Rl.k2 {k : Dk} {ν : Nat → Nat} {r : Rk} {n : Nat} (h : Rl k ν r) (hd : k.Dok n) (hu : k.Sum) (nm : ByteArray) (b : List Nat) : ∃ ν', (appendK k nm b).1 = (doX r (rfs2 r.ps r.most nm b.length) fun q => rdo2 q (leadL r.ps.last nm.data.toList).toNat b).1 ∧ Rl (appendK k nm b).2 ν' (doX r (rfs2 r.ps r.most nm b.length) fun q => rdo2 q (leadL r.ps.last nm.data.toList).toNat b).2 := by
  have hq := h.most
  have hus := h.used hd hu
  have hcd : (0 < b.length ∧ r.most < (usedN r.ps r.ps.last : Int) + (b.length : Int)) ↔ (0 < b.length ∧ k.quota - k.used < b.length) := by rw [hq, hus]; constructor <;> rintro ⟨a1, a2⟩ <;> exact ⟨a1, by omega⟩
  have hz3 : k.dead = false → (rfs4 r.ps nm ≠ 0 → rfs2 r.ps r.most nm b.length = rfs4 r.ps nm) ∧ (rfs4 r.ps nm = 0 → rfs2 r.ps r.most nm b.length = if 0 < b.length ∧ k.quota - k.used < b.length then 33 else 0) := fun e => by
    refine ⟨fun hz => ?_, fun hz => ?_⟩
    · unfold rfs4 at hz ⊢
      unfold rfs2
      by_cases h1 : nmL nm.data.toList = true
      · rw [if_pos h1] at hz ⊢
        rw [if_pos h1]
        by_cases h2 : leadL r.ps.last nm.data.toList < 0
        · rw [if_pos h2, if_pos h2]
        · rw [if_neg h2] at hz; exact absurd rfl hz
      · rw [if_neg h1, if_neg h1]
    · unfold rfs4 at hz
      unfold rfs2
      by_cases h1 : nmL nm.data.toList = true
      · rw [if_pos h1] at hz ⊢
        by_cases h2 : leadL r.ps.last nm.data.toList < 0
        · rw [if_pos h2] at hz; cases hz
        · rw [if_neg h2]
          by_cases h3 : 0 < b.length ∧ k.quota - k.used < b.length
          · rw [if_pos h3, if_pos (hcd.mpr h3)]
          · rw [if_neg h3, if_neg (fun e2 => h3 (hcd.mp e2))]
      · rw [if_neg h1] at hz; cases hz
  refine h.kind hd (fun e => ?_) (fun e hz => ?_) (fun e hz hc => ?_) (fun e hz hc hs => ?_)
  · unfold appendK; rw [fnd_off e, if_neg (by decide)]
  · obtain ⟨z1, z2⟩ := hz3 e
    by_cases h4 : rfs4 r.ps nm = 0
    · have e3 := z2 h4
      rw [e3] at hz ⊢
      have hf := h.fndEq hd e nm
      rw [h4] at hf
      by_cases hm : 0 < b.length ∧ k.quota - k.used < b.length
      · rw [if_pos hm]
        unfold appendK; rw [hf, if_pos rfl, if_pos hm]
      · rw [if_neg hm] at hz; exact absurd rfl hz
    · unfold appendK; rw [h.fndEq hd e, if_neg h4, z1 h4]
  · obtain ⟨z1, z2⟩ := hz3 e
    have h4 : rfs4 r.ps nm = 0 := Decidable.byContradiction fun h4 => h4 ((z1 h4).symm.trans hz)
    have e3 := z2 h4
    have hf := h.fndEq hd e nm
    rw [h4] at hf
    obtain ⟨G, hG⟩ := fnd_zero hf
    rw [hz] at e3
    have hm : ¬ (0 < b.length ∧ k.quota - k.used < b.length) := fun hm => by rw [if_pos hm] at e3; cases e3
    unfold appendK; rw [hf, if_pos rfl, if_neg hm, hG]; simp [hc]
  · obtain ⟨z1, z2⟩ := hz3 e
    have h4 : rfs4 r.ps nm = 0 := Decidable.byContradiction fun h4 => h4 ((z1 h4).symm.trans hz)
    have e3 := z2 h4
    have hf := h.fndEq hd e nm
    rw [h4] at hf
    obtain ⟨G, hG⟩ := fnd_zero hf
    rw [hz] at e3
    have hm : ¬ (0 < b.length ∧ k.quota - k.used < b.length) := fun hm => by rw [if_pos hm] at e3; cases e3
    have hc0 : appendK k nm b = (0, (k.spent.setFile G ((k.file G).add b)).uses (k.used + b.length)) := by
      unfold appendK; rw [hf, if_pos rfl, if_neg hm, hG]; simp [hc]
    obtain ⟨f, e1, e2, e4⟩ := h.ps.append hd hc0
    refine ⟨_, ν, hc0, hs.done' ?_ ?_⟩
    · show PsR _ ν ⟨r.spent.ps.files.set _ (r.spent.ps.files.getD _ [] ++ [r.spent.ps.now _ ++ b]), r.spent.ps.grown.set _ (r.spent.ps.grown.getD _ [] ++ [(b.length : Int)]), r.spent.ps.dirs⟩
      rw [Rk.spent_ps, e1, Int.toNat_natCast]
      exact e4
    · exact hs.asc
/-- The last directory in another order. -/
theorem PsR.perm {k : Dk} {ν : Nat → Nat} {fs : List (List (List Nat))} {gs : List (List Int)} {ds : List (List (Nm × Nat))} {l l' : List (Nm × Nat)} (h : PsR k ν ⟨fs, gs, ds ++ [l]⟩) (hp : l'.Perm l) : PsR k ν ⟨fs, gs, ds ++ [l']⟩ := by
  have hdl := h.dlen
  refine ⟨h.inj, h.len, h.file, by simpa using hdl, fun j hj => ?_, h.nod⟩
  have hd := h.dir j hj
  have hl : (ds ++ [l]).length = ds.length + 1 := by simp
  have hj2 : j ≤ ds.length := by
    have : (ds ++ [l]).length = k.chg.length + 1 := hdl
    omega
  by_cases e : j < ds.length
  · have e1 : ∀ x, (ds ++ [x]).getD j [] = ds.getD j [] := fun x => by rw [List.getD_eq_getElem?_getD, List.getElem?_append_left e, List.getD_eq_getElem?_getD]
    show ((ds ++ [l']).getD j []).Perm _
    rw [e1 l', ← e1 l]
    exact hd
  · have e2 : j = ds.length := by omega
    have e1 : ∀ x, (ds ++ [x]).getD j [] = x := fun x => by rw [e2, List.getD_eq_getElem?_getD, List.getElem?_append_right (Nat.le_refl _)]; simp
    show ((ds ++ [l']).getD j []).Perm _
    rw [e1 l']
    have hd' : ((ds ++ [l]).getD j []).Perm _ := hd
    rw [e1 l] at hd'
    exact hp.trans hd'
theorem left_ne {l : List (Nm × Nat)} {s : Nm} {y : Nm × Nat} (h : y ∈ leftL l s) : y.1 ≠ s := by
  unfold leftL at h
  have := (List.mem_filter.mp h).2
  simpa using this
theorem rdy_off (ns : List ByteArray) : rdy true ns = 34 := rfl
theorem Rl.k6 {k : Dk} {ν : Nat → Nat} {r : Rk} {n : Nat} (h : Rl k ν r) (hd : k.Dok n) (nm to : ByteArray) : ∃ ν', (renameK k nm to).1 = (doX r (rfs6 r.ps nm to) fun q => rdo6 q nm to (leadL r.ps.last nm.data.toList).toNat).1 ∧ Rl (renameK k nm to).2 ν' (doX r (rfs6 r.ps nm to) fun q => rdo6 q nm to (leadL r.ps.last nm.data.toList).toNat).2 := by
  have hrd : k.dead = false → rdy k.dead [nm, to] = if nmL nm.data.toList = true ∧ nmL to.data.toList = true then 0 else 30 := fun e => by
    unfold rdy nmsB
    rw [e, if_neg (by simp)]
    simp only [List.all_cons, List.all_nil, Bool.and_true, Bool.and_eq_true]
  have heq : nm.toList = to.toList ↔ nm = to := ⟨fun e => by rw [ByteArray.toList_eq, ByteArray.toList_eq] at e; exact WideShapes.bytes_inj e, fun e => by rw [e]⟩
  have hz3 : k.dead = false → ∀ c : Int × Dk, (rdy k.dead [nm, to] ≠ 0 → c = (rdy k.dead [nm, to], k)) → (rdy k.dead [nm, to] = 0 → nm = to → c = (3, k)) → (rdy k.dead [nm, to] = 0 → nm ≠ to → (fnd k.dead k.L nm).2 ≠ 0 → c = ((fnd k.dead k.L nm).2, k)) → rfs6 r.ps nm to ≠ 0 → c = (rfs6 r.ps nm to, k) := fun e c c1 c2 c3 hz => by
    have hf := h.fndEq hd e nm
    have hr := hrd e
    rw [hr] at c1 c2 c3
    unfold rfs6 at hz ⊢
    unfold rfs4 at hf
    by_cases h1 : nmL nm.data.toList = true
    · by_cases h2 : nmL to.data.toList = true
      · rw [if_pos h1, if_pos h2] at hz ⊢
        rw [if_pos ⟨h1, h2⟩] at c2 c3
        by_cases h3 : nm = to
        · rw [if_pos (heq.mpr h3)]; exact c2 rfl h3
        · rw [if_neg (fun e2 => h3 (heq.mp e2))] at hz ⊢
          rw [if_pos h1] at hf
          rw [← hf] at hz ⊢
          exact c3 rfl h3 hz
      · rw [if_pos h1, if_neg h2]
        rw [if_neg (fun e2 => h2 e2.2)] at c1
        exact c1 (by decide)
    · rw [if_neg h1]
      rw [if_neg (fun e2 => h1 e2.1)] at c1
      exact c1 (by decide)
  have hz0 : k.dead = false → rfs6 r.ps nm to = 0 → rdy k.dead [nm, to] = 0 ∧ nm ≠ to ∧ (fnd k.dead k.L nm).2 = 0 := fun e hz => by
    have hf := h.fndEq hd e nm
    rw [hrd e]
    unfold rfs6 at hz
    unfold rfs4 at hf
    by_cases h1 : nmL nm.data.toList = true
    · by_cases h2 : nmL to.data.toList = true
      · rw [if_pos h1, if_pos h2] at hz
        by_cases h3 : nm = to
        · rw [if_pos (heq.mpr h3)] at hz; cases hz
        · rw [if_neg (fun e2 => h3 (heq.mp e2))] at hz
          rw [if_pos h1, hz] at hf
          exact ⟨if_pos ⟨h1, h2⟩, h3, hf⟩
      · rw [if_pos h1, if_neg h2] at hz; cases hz
    · rw [if_neg h1] at hz; cases hz
  refine h.kind hd (fun e => ?_) (fun e hz => ?_) (fun e hz hc => ?_) (fun e hz hc hs => ?_)
  · unfold renameK; rw [e, rdy_off, if_pos (by decide)]
  · refine hz3 e _ (fun q1 => ?_) (fun q1 q2 => ?_) (fun q1 q2 q3 => ?_) hz
    · unfold renameK; rw [if_pos q1]
    · unfold renameK; rw [if_neg (fun e => e q1), if_pos q2]
    · unfold renameK; rw [if_neg (fun e => e q1), if_neg q2, if_neg q3]
  · obtain ⟨q1, q2, q3⟩ := hz0 e hz
    unfold renameK; rw [if_neg (fun e => e q1), if_neg q2, if_pos q3]; simp [hc]
  · obtain ⟨q1, q2, q3⟩ := hz0 e hz
    have hc0 : renameK k nm to = (0, (k.spent.uses (k.used - sizeK k to)).did (DC.mv nm.data.toList to.data.toList)) := by unfold renameK; rw [if_neg (fun e => e q1), if_neg q2, if_pos q3]; simp [hc]
    obtain ⟨f, e1, e2, e4⟩ := h.ps.rename hd hc0
    refine ⟨_, ν, hc0, hs.done' ?_ (fun l hl => ?_)⟩
    · show PsR _ ν ⟨r.spent.ps.files, r.spent.ps.grown, r.spent.ps.dirs ++ [withL (leftL (leftL r.spent.ps.last nm.data.toList) to.data.toList) (to.data.toList, (leadL r.ps.last nm.data.toList).toNat)]⟩
      rw [Rk.spent_ps, e1, Int.toNat_natCast]
      exact e4.perm ((withL_perm _ _).trans (List.perm_append_singleton _ _).symm)
    · have hl' : l ∈ r.spent.ps.dirs ++ [withL (leftL (leftL r.spent.ps.last nm.data.toList) to.data.toList) (to.data.toList, (leadL r.ps.last nm.data.toList).toNat)] := hl
      rw [Rk.spent_ps] at hl'
      rcases List.mem_append.mp hl' with h1 | h1
      · exact h.asc l h1
      · rw [List.mem_singleton.mp h1]; exact Asc.with (((h.lastAsc hd).left _).left _) _ (fun y hy => left_ne hy)
end Go.Proofs.YthcnhjmkcekdaaaGreat

namespace Go.Proofs.YthcnhjmkcekdaaaGreat
open Go.RowKit Go.Maps Plain
set_option linter.unusedVariables false
set_option linter.unusedSimpArgs false
theorem Rl.k1 {k : Dk} {ν : Nat → Nat} {r : Rk} {n : Nat} (h : Rl k ν r) (hd : k.Dok n) (hp : k.Past) (hnm : ∀ q ∈ k.L, q.1 ≠ []) {G : Nat} (hG : ¬ k.live G) (nm : ByteArray) : ∃ ν', (createK k nm G).1 = (doX r (rfs1 r.ps nm) fun q => rdo1 q nm).1 ∧ Rl (createK k nm G).2 ν' (doX r (rfs1 r.ps nm) fun q => rdo1 q nm).2 := by
  have hrd : k.dead = false → rdy k.dead [nm] = if nmL nm.data.toList = true then 0 else 30 := fun e => by
    unfold rdy nmsB
    rw [e, if_neg (by simp)]
    simp only [List.all_cons, List.all_nil, Bool.and_true]
  have hl := h.ps.lead hd nm.data.toList
  have hlen := h.len hd
  have hlk : 0 ≤ leadL r.ps.last nm.data.toList ↔ (look k.L nm.data.toList).isSome = true := by
    rw [hl]
    cases look k.L nm.data.toList with
    | none => simp
    | some G => simp
  obtain ⟨s1, s2, -⟩ := h.ps.seen hd
  have hz0 : k.dead = false → rfs1 r.ps nm = 0 → rdy k.dead [nm] = 0 ∧ look k.L nm.data.toList = none ∧ ¬ 65536 ≤ k.L.length := fun e hz => by
    rw [hrd e]
    unfold rfs1 at hz
    rw [hlen] at hz
    by_cases h1 : nmL nm.data.toList = true
    · rw [if_pos h1] at hz
      by_cases h2 : (look k.L nm.data.toList).isSome = true
      · rw [if_pos (hlk.mpr h2)] at hz; cases hz
      · rw [if_neg (fun e2 => h2 (hlk.mp e2))] at hz
        by_cases h3 : 65536 ≤ k.L.length
        · rw [if_pos h3] at hz; cases hz
        · exact ⟨if_pos h1, by simpa using h2, h3⟩
    · rw [if_neg h1] at hz; cases hz
  refine h.kind hd (fun e => ?_) (fun e hz => ?_) (fun e hz hc => ?_) (fun e hz hc hs => ?_)
  · unfold createK; rw [e, rdy_off, if_pos (by decide)]
  · unfold createK
    unfold rfs1 at hz ⊢
    rw [hlen] at hz ⊢
    rw [hrd e]
    by_cases h1 : nmL nm.data.toList = true
    · rw [if_pos h1] at hz ⊢
      rw [if_pos h1, if_neg (by simp)]
      by_cases h2 : (look k.L nm.data.toList).isSome = true
      · rw [if_pos h2, if_pos (hlk.mpr h2)]
      · rw [if_neg (fun e2 => h2 (hlk.mp e2))] at hz ⊢
        rw [if_neg h2]
        by_cases h3 : 65536 ≤ k.L.length
        · rw [if_pos h3, if_pos h3]
        · rw [if_neg h3] at hz; exact absurd rfl hz
    · rw [if_neg h1, if_neg h1, if_pos (by decide)]
  · obtain ⟨q1, q2, q3⟩ := hz0 e hz
    unfold createK; rw [if_neg (fun e => e q1), q2, if_neg (by simp), if_neg q3]; simp [hc]
  · obtain ⟨q1, q2, q3⟩ := hz0 e hz
    have hc0 : createK k nm G = (0, (k.spent.addFile G).did (DC.mk nm.data.toList G)) := by unfold createK; rw [if_neg (fun e => e q1), q2, if_neg (by simp), if_neg q3]; simp [hc]
    obtain ⟨e1, e4⟩ := h.ps.create hd hp hG hnm hc0
    rw [left_noneP (fun x hx2 => by
      obtain ⟨q, hq, e3⟩ := List.mem_map.mp (s1.mem_iff.mp hx2)
      rw [← e3]
      exact hnm q hq)] at e4
    refine ⟨_, _, hc0, hs.done' (ν' := upd ν G r.ps.files.length) ?_ (fun l hl => ?_)⟩
    · show PsR _ _ ⟨r.spent.ps.files ++ [[[]]], r.spent.ps.grown ++ [[-1]], r.spent.ps.dirs ++ [withL r.spent.ps.last (nm.data.toList, r.spent.ps.files.length)]⟩
      rw [Rk.spent_ps]
      exact e4.perm ((withL_perm _ _).trans (List.perm_append_singleton _ _).symm)
    · have hl' : l ∈ r.spent.ps.dirs ++ [withL r.spent.ps.last (nm.data.toList, r.spent.ps.files.length)] := hl
      rw [Rk.spent_ps] at hl'
      rcases List.mem_append.mp hl' with h1 | h1
      · exact h.asc l h1
      · rw [List.mem_singleton.mp h1]
        refine Asc.with (h.lastAsc hd) _ (fun y hy => ?_)
        obtain ⟨-, e2⟩ := Perm.leads s1 s2 hy
        exact look_none q2 (y.1, fileOf k.L y.1) e2
/-- What the document's disk refuses, by kinds. -/
def rfR (r : Rk) (kd : Int) (nm to : ByteArray) (m : Int) (b : List Nat) : Int := if kd = 1 then rfs1 r.ps nm else if kd = 2 then rfs2 r.ps r.most nm b.length else if kd = 3 then rfs3 r.ps nm m else if kd = 4 then rfs4 r.ps nm else if kd = 5 then 0 else if kd = 6 then rfs6 r.ps nm to else rfs4 r.ps nm
/-- What it does, by kinds. -/
def goR (r : Rk) (kd : Int) (nm to : ByteArray) (m : Int) (b : List Nat) (q : Rk) : Rk := if kd = 1 then rdo1 q nm else if kd = 2 then rdo2 q (leadL r.ps.last nm.data.toList).toNat b else if kd = 3 then rdo3 q (leadL r.ps.last nm.data.toList).toNat m.toNat else if kd = 4 then rdo4 q (leadL r.ps.last nm.data.toList).toNat else if kd = 5 then rdo5 q else if kd = 6 then rdo6 q nm to (leadL r.ps.last nm.data.toList).toNat else rdo7 q nm
def doR (r : Rk) (kd : Int) (nm to : ByteArray) (m : Int) (b : List Nat) : Int × Rk := doX r (rfR r kd nm to m b) (goR r kd nm to m b)
/-- Whatever change: both answer the same, and stay the same. -/
theorem Rl.ch {k : Dk} {ν : Nat → Nat} {r : Rk} {n : Nat} (h : Rl k ν r) (hd : k.Dok n) (hp : k.Past) (hu : k.Sum) (hnm : ∀ q ∈ k.L, q.1 ≠ []) {G : Nat} (hG : ¬ k.live G) (kd : Int) (nm to : ByteArray) (m : Int) (b : List Nat) : ∃ ν', (chK k kd nm to m b G).1 = (doR r kd nm to m b).1 ∧ Rl (chK k kd nm to m b G).2 ν' (doR r kd nm to m b).2 := by
  unfold chK doR
  by_cases h1 : kd = 1
  · have e1 : rfR r kd nm to m b = rfs1 r.ps nm := if_pos h1
    have e2 : goR r kd nm to m b = fun q => rdo1 q nm := by funext q; exact if_pos h1
    rw [if_pos h1, e1, e2]; exact h.k1 hd hp hnm hG nm
  by_cases h2 : kd = 2
  · have e1 : rfR r kd nm to m b = rfs2 r.ps r.most nm b.length := by unfold rfR; rw [if_neg h1, if_pos h2]
    have e2 : goR r kd nm to m b = fun q => rdo2 q (leadL r.ps.last nm.data.toList).toNat b := by funext q; unfold goR; rw [if_neg h1, if_pos h2]
    rw [if_neg h1, if_pos h2, e1, e2]; exact h.k2 hd hu nm b
  by_cases h3 : kd = 3
  · have e1 : rfR r kd nm to m b = rfs3 r.ps nm m := by unfold rfR; rw [if_neg h1, if_neg h2, if_pos h3]
    have e2 : goR r kd nm to m b = fun q => rdo3 q (leadL r.ps.last nm.data.toList).toNat m.toNat := by funext q; unfold goR; rw [if_neg h1, if_neg h2, if_pos h3]
    rw [if_neg h1, if_neg h2, if_pos h3, e1, e2]; exact h.k3 hd nm m
  by_cases h4 : kd = 4
  · have e1 : rfR r kd nm to m b = rfs4 r.ps nm := by unfold rfR; rw [if_neg h1, if_neg h2, if_neg h3, if_pos h4]
    have e2 : goR r kd nm to m b = fun q => rdo4 q (leadL r.ps.last nm.data.toList).toNat := by funext q; unfold goR; rw [if_neg h1, if_neg h2, if_neg h3, if_pos h4]
    rw [if_neg h1, if_neg h2, if_neg h3, if_pos h4, e1, e2]; exact h.k4 hd nm
  by_cases h5 : kd = 5
  · have e1 : rfR r kd nm to m b = 0 := by unfold rfR; rw [if_neg h1, if_neg h2, if_neg h3, if_neg h4, if_pos h5]
    have e2 : goR r kd nm to m b = rdo5 := by funext q; unfold goR; rw [if_neg h1, if_neg h2, if_neg h3, if_neg h4, if_pos h5]
    rw [if_neg h1, if_neg h2, if_neg h3, if_neg h4, if_pos h5, e1, e2]; exact h.k5 hd
  by_cases h6 : kd = 6
  · have e1 : rfR r kd nm to m b = rfs6 r.ps nm to := by unfold rfR; rw [if_neg h1, if_neg h2, if_neg h3, if_neg h4, if_neg h5, if_pos h6]
    have e2 : goR r kd nm to m b = fun q => rdo6 q nm to (leadL r.ps.last nm.data.toList).toNat := by funext q; unfold goR; rw [if_neg h1, if_neg h2, if_neg h3, if_neg h4, if_neg h5, if_pos h6]
    rw [if_neg h1, if_neg h2, if_neg h3, if_neg h4, if_neg h5, if_pos h6, e1, e2]; exact h.k6 hd nm to
  · have e1 : rfR r kd nm to m b = rfs4 r.ps nm := by unfold rfR; rw [if_neg h1, if_neg h2, if_neg h3, if_neg h4, if_neg h5, if_neg h6]
    have e2 : goR r kd nm to m b = fun q => rdo7 q nm := by funext q; unfold goR; rw [if_neg h1, if_neg h2, if_neg h3, if_neg h4, if_neg h5, if_neg h6]
    rw [if_neg h1, if_neg h2, if_neg h3, if_neg h4, if_neg h5, if_neg h6, e1, e2]; exact h.k7 hd nm
/-- Size. -/
theorem Rl.size {k : Dk} {ν : Nat → Nat} {r : Rk} {n G : Nat} (h : Rl k ν r) (hd : k.Dok n) {s : ByteArray} (hl : look k.L s.data.toList = some G) : sizeK k s = (r.ps.now (leadL r.ps.last s.data.toList).toNat).length := by
  obtain ⟨e1, -, -, -, e5, -⟩ := h.ps.leads hd hl
  rw [e1, Int.toNat_natCast, h.now hd e5]
  unfold sizeK; rw [hl]; rfl
/-- Read. -/
theorem Rl.read {k : Dk} {ν : Nat → Nat} {r : Rk} {n G : Nat} (h : Rl k ν r) (hd : k.Dok n) {s : ByteArray} (hl : look k.L s.data.toList = some G) (A M : Nat) : rdB k s A M = ((r.ps.now (leadL r.ps.last s.data.toList).toNat).drop A).take M := by
  obtain ⟨e1, -, -, -, e5, -⟩ := h.ps.leads hd hl
  rw [e1, Int.toNat_natCast, h.now hd e5]
  unfold rdB; rw [hl]; rfl
end Go.Proofs.YthcnhjmkcekdaaaGreat

namespace Go.Proofs.YthcnhjmkcekdaaaGreat
open Go.RowKit Go.Maps Plain
set_option linter.unusedVariables false
set_option linter.unusedSimpArgs false
/-- The bounds within which it is walked. -/
structure Rk.Bd (r : Rk) : Prop where
  ok : r.Ok
  dl : r.ps.dirs.length < 2199023255000
  fl : r.ps.files.length < 2199023255000
  few : r.ps.last.length ≤ 65536
  used : usedN r.ps r.ps.last ≤ 70368744177664
  st : ∀ f, f < r.ps.files.length → (r.ps.files.getD f []).length < 2199023255000 ∧ (r.ps.grown.getD f []).length < 2199023255000
  left : I64 r.left
  d0 : 0 ≤ r.done
  d1 : r.done ≤ 4611686018427387904
  most : 0 ≤ r.most ∧ r.most ≤ 1073741824
theorem doGen {w : World} {gp : Nat} {k : Rk} {B : Nat → Prop} {blk : Nat → Option Nat} {vF vD : Value} {xs : List Ino} {dv : List Value} {sv tv : Nat → List Value} (h : RdM w gp k B blk vF vD xs dv sv tv) (hb : k.Bd) (nm to : ByteArray) (at' m kd : Int) (vb : Value) (x : Int) (f : Rk → Rk)
    (hrf : ∀ u, RdM u gp k B blk vF vD xs dv sv tv → Calls Tryz.prog 49 #[.pointer (some ⟨gp, 0, none⟩), actV kd nm to at' m vb] u fun e w' => e = .returned (.int .i64 x) ∧ Below u.heap.size u w')
    (hgo : k.off = false → x = 0 → k.can = true → Calls Tryz.prog 14 #[.pointer (some ⟨gp, 0, none⟩), actV kd nm to at' m vb] w fun e w' => e = .returned (.int .i64 0) ∧ RtP gp (f k.spent) (rdT gp B blk) w w') :
    Calls Tryz.prog 14 #[.pointer (some ⟨gp, 0, none⟩), actV kd nm to at' m vb] w fun e w' => e = .returned (.int .i64 (doX k x f).1) ∧ RtP gp (doX k x f).2 (rdT gp B blk) w w' := by
  unfold doX
  cases e : k.off with
  | true => rw [if_pos rfl]; exact doOff h hb.ok nm to at' m kd vb e
  | false =>
    rw [if_neg (by simp)]
    by_cases hx : x = 0
    · subst hx
      rw [if_neg (by simp)]
      cases e2 : k.can with
      | true => rw [if_pos rfl]; exact hgo e rfl e2
      | false => rw [if_neg (by simp)]; exact doBurn h hb.ok nm to at' m kd vb e hb.left hb.d0 hb.d1 e2 hrf
    · rw [if_pos hx]; exact doRef h hb.ok nm to at' m kd vb e hb.left hb.d0 hb.d1 x hx hrf
theorem rfs4_lead {p : Ps} {nm : ByteArray} (h : rfs4 p nm = 0) : 0 ≤ leadL p.last nm.data.toList := by
  unfold rfs4 at h
  by_cases h1 : nmL nm.data.toList = true
  · rw [if_pos h1] at h
    by_cases h2 : leadL p.last nm.data.toList < 0
    · rw [if_pos h2] at h; cases h
    · omega
  · rw [if_neg h1] at h; cases h
theorem rfs6_lead {p : Ps} {nm to : ByteArray} (h : rfs6 p nm to = 0) : 0 ≤ leadL p.last nm.data.toList := by
  unfold rfs6 at h
  split at h
  · split at h
    · split at h
      · cases h
      · split at h
        · cases h
        · omega
    · cases h
  · cases h
theorem rfs3_lead {p : Ps} {nm : ByteArray} {m : Int} (h : rfs3 p nm m = 0) : 0 ≤ leadL p.last nm.data.toList ∧ 0 ≤ m ∧ m ≤ ((p.now (leadL p.last nm.data.toList).toNat).length : Int) := by
  unfold rfs3 at h
  split at h
  · split at h
    · cases h
    · split at h
      · cases h
      · rename_i h1 h2 h3
        exact ⟨by omega, by omega, by omega⟩
  · cases h
theorem rfs2_lead {p : Ps} {most : Int} {nm : ByteArray} {b : Nat} (h : rfs2 p most nm b = 0) : 0 ≤ leadL p.last nm.data.toList ∧ (b = 0 ∨ (usedN p p.last : Int) + b ≤ most) := by
  unfold rfs2 at h
  split at h
  · split at h
    · cases h
    · split at h
      · cases h
      · rename_i h1 h2 h3
        exact ⟨by omega, by omega⟩
  · cases h
theorem lead_mem {l : List (Nm × Nat)} {s : Nm} (h : 0 ≤ leadL l s) : (s, (leadL l s).toNat) ∈ l := by
  unfold leadL at h ⊢
  cases e : l.find? (fun x => x.1 == s) with
  | none => rw [e] at h; exact absurd h (by show ¬ (0 : Int) ≤ -1; decide)
  | some x =>
    have h1 := List.find?_some e
    have h2 := List.mem_of_find?_eq_some e
    have h3 : x.1 = s := by simpa using h1
    show (s, ((x.2 : Nat) : Int).toNat) ∈ l
    rw [Int.toNat_natCast, ← h3]
    exact h2
theorem now_used {p : Ps} {x : Nm × Nat} : ∀ {l : List (Nm × Nat)}, x ∈ l → (p.now x.2).length ≤ usedN p l
  | y :: l, h => by
    have e : usedN p (y :: l) = (p.now y.2).length + usedN p l := by unfold usedN; rw [List.map_cons, List.sum_cons]
    rw [e]
    rcases List.mem_cons.mp h with h1 | h1
    · rw [h1]; omega
    · have := now_used (p := p) h1; omega
theorem doAll {w : World} {gp : Nat} {k : Rk} {B : Nat → Prop} {blk : Nat → Option Nat} {vF vD : Value} {xs : List Ino} {dv : List Value} {sv tv : Nat → List Value} (h : RdM w gp k B blk vF vD xs dv sv tv) (hb : k.Bd) (nm to : ByteArray) (at' m kd : Int) (ab : Option Addr) (cb : Nat) (b : List Nat) (hkd : 1 ≤ kd ∧ kd ≤ 7) (hnm : nm.size ≤ maxLen) (hto : to.size ≤ maxLen) (hm : I64 m) (hbl : b.length ≤ 281474976710656) (hdt : ∀ u, Chg (rdT gp B blk) w u → BytesAt u (.slice ab b.length cb) b) :
    Calls Tryz.prog 14 #[.pointer (some ⟨gp, 0, none⟩), actV kd nm to at' m (.slice ab b.length cb)] w fun e w' => e = .returned (.int .i64 (doR k kd nm to m b).1) ∧ RtP gp (doR k kd nm to m b).2 (rdT gp B blk) w w' := by
  have hk := hb.ok
  have hld : 0 ≤ leadL k.ps.last nm.data.toList → leadL k.ps.last nm.data.toList = (((leadL k.ps.last nm.data.toList).toNat : Nat) : Int) ∧ (leadL k.ps.last nm.data.toList).toNat < k.ps.files.length := fun h0 => ⟨(Int.toNat_of_nonneg h0).symm, (lead_ref hk h0).1⟩
  have hnw : 0 ≤ leadL k.ps.last nm.data.toList → (k.ps.now (leadL k.ps.last nm.data.toList).toNat).length ≤ usedN k.ps k.ps.last := fun h0 => now_used (lead_mem h0)
  have hus := hb.used
  have hmo := hb.most
  obtain ⟨h1, h7⟩ := hkd
  rcases (by omega : kd = 1 ∨ kd = 2 ∨ kd = 3 ∨ kd = 4 ∨ kd = 5 ∨ kd = 6 ∨ kd = 7) with e | e | e | e | e | e | e
  all_goals subst e
  all_goals unfold doR
  · exact doGen h hb nm to at' m 1 _ _ _ (fun u hu => refuse1 hu hk nm to at' m _ hb.few hnm) (fun a1 a2 a3 => do1 h hk nm to at' m _ hb.dl hb.fl a1 hb.left hb.d0 hb.d1 a3 (fun u hu => by have := refuse1 hu hk nm to at' m (.slice ab b.length cb) hb.few hnm; rw [show rfs1 k.ps nm = 0 from a2] at this; exact this))
  · refine doGen h hb nm to at' m 2 _ _ _ (fun u hu => refuse2 hu hk nm to at' m ab b.length cb hbl (by omega) hnm) (fun a1 a2 a3 => ?_)
    have a2' : rfs2 k.ps k.most nm b.length = 0 := a2
    obtain ⟨q1, q2⟩ := rfs2_lead a2'
    obtain ⟨q3, q4⟩ := hld q1
    have q5 := hnw q1
    refine do2 h hk nm to at' m ab cb b _ q3 q4 ⟨(hb.st _ q4).1, (hb.st _ q4).2, ?_⟩ hdt a1 hb.left hb.d0 hb.d1 a3 (fun u hu => by have := refuse2 hu hk nm to at' m ab b.length cb hbl (by omega) hnm; rw [a2'] at this; exact this)
    rcases q2 with q2 | q2 <;> omega
  · refine doGen h hb nm to at' m 3 _ _ _ (fun u hu => refuse3 hu hk nm to at' m _ hm hnm) (fun a1 a2 a3 => ?_)
    have a2' : rfs3 k.ps nm m = 0 := a2
    obtain ⟨q1, q2, q2'⟩ := rfs3_lead a2'
    obtain ⟨q3, q4⟩ := hld q1
    have q5 := hnw q1
    obtain ⟨n0, rfl⟩ := Int.eq_ofNat_of_zero_le q2
    exact do3 h hk nm to at' n0 _ _ q3 q4 ⟨(hb.st _ q4).1, (hb.st _ q4).2, by omega, by omega⟩ a1 hb.left hb.d0 hb.d1 a3 (fun u hu => by have := refuse3 hu hk nm to at' (n0 : Int) (.slice ab b.length cb) hm hnm; rw [a2'] at this; exact this)
  · refine doGen h hb nm to at' m 4 _ _ _ (fun u hu => refuse4 hu hk nm to at' m _ hnm) (fun a1 a2 a3 => ?_)
    have a2' : rfs4 k.ps nm = 0 := a2
    obtain ⟨q3, q4⟩ := hld (rfs4_lead a2')
    exact do4 h hk nm to at' m _ _ q3 q4 a1 hb.left hb.d0 hb.d1 a3 (fun u hu => by have := refuse4 hu hk nm to at' m (.slice ab b.length cb) hnm; rw [a2'] at this; exact this)
  · exact doGen h hb nm to at' m 5 _ _ _ (fun u hu => refuse5 hu hk nm to at' m _ hnm) (fun a1 a2 a3 => do5 h hk nm to at' m _ a1 hb.left hb.d0 hb.d1 a3 (fun u hu => refuse5 hu hk nm to at' m _ hnm))
  · refine doGen h hb nm to at' m 6 _ _ _ (fun u hu => refuse6 hu hk nm to at' m _ hto hnm) (fun a1 a2 a3 => ?_)
    have a2' : rfs6 k.ps nm to = 0 := a2
    obtain ⟨q3, q4⟩ := hld (rfs6_lead a2')
    exact do6 h hk nm to at' m _ _ q3 q4 hb.dl a1 hb.left hb.d0 hb.d1 a3 (fun u hu => by have := refuse6 hu hk nm to at' m (.slice ab b.length cb) hto hnm; rw [a2'] at this; exact this)
  · refine doGen h hb nm to at' m 7 _ _ _ (fun u hu => refuse7 hu hk nm to at' m _ hnm) (fun a1 a2 a3 => ?_)
    have a2' : rfs4 k.ps nm = 0 := a2
    exact do7 h hk nm to at' m _ hb.dl a1 hb.left hb.d0 hb.d1 a3 (fun u hu => by have := refuse7 hu hk nm to at' m (.slice ab b.length cb) hnm; rw [a2'] at this; exact this)
end Go.Proofs.YthcnhjmkcekdaaaGreat

namespace Go.Proofs.YthcnhjmkcekdaaaGreat
open Go.RowKit Go.Maps Plain
set_option linter.unusedVariables false
set_option linter.unusedSimpArgs false
theorem Rl.fuse {k : Dk} {ν : Nat → Nat} {r : Rk} (h : Rl k ν r) (n : Int) : Rl (fuseK k n) ν (r.fuses n) := by
  unfold fuseK Rk.fuses
  cases e : k.dead with
  | true => rw [if_pos rfl, if_pos (by rw [h.off]; exact e)]; exact h
  | false =>
    rw [if_neg (by simp), if_neg (by rw [h.off, e]; simp)]
    refine ⟨h.ps.same rfl rfl rfl rfl, h.asc, h.most, h.off, h.done, ?_⟩
    show (if n < 0 then -1 else n) = if decide (0 ≤ n) = true then n else -1
    by_cases hn : n < 0
    · rw [if_pos hn, if_neg (by simpa using hn)]
    · rw [if_neg hn, if_pos (by simpa using hn)]
theorem Rl.quotas {k : Dk} {ν : Nat → Nat} {r : Rk} (h : Rl k ν r) (q : Int) : Rl (k.quotas q) ν (r.quotas q) := ⟨h.ps.same rfl rfl rfl rfl, h.asc, rfl, h.off, h.done, h.left⟩
theorem Rl.zero (q : Int) : Rl (Dk.fresh q) (fun _ => 0) (rk0 q) := ⟨PsR.zero q, fun l hl => by
  have : l = [] := by simpa [rk0] using hl
  rw [this]; exact List.Pairwise.nil, rfl, rfl, rfl, rfl⟩
theorem dirI_at : ∀ (l : List (Nm × List Nat)) (n i : Nat), (dirI l n)[i]? = (l[i]?).map fun x => (x.1, n + i)
  | [], n, i => by simp [dirI]
  | x :: l, n, 0 => by simp [dirI]
  | x :: l, n, i + 1 => by
    rw [dirI, List.getElem?_cons_succ, List.getElem?_cons_succ, dirI_at l (n + 1) i, show n + 1 + i = n + (i + 1) by omega]
theorem dirI_names : ∀ (l : List (Nm × List Nat)) (n : Nat), (dirI l n).map (·.1) = l.map (·.1)
  | [], n => rfl
  | x :: l, n => by rw [dirI, List.map_cons, List.map_cons, dirI_names l]
theorem Asc.dirI {im : List (Nm × List Nat)} (h : im.Pairwise fun a b => a.1 < b.1) (n : Nat) : Asc (dirI im n) := by
  have h1 : (im.map (·.1)).Pairwise (· < ·) := List.pairwise_map.mpr h
  rw [← dirI_names im n] at h1
  exact List.pairwise_map.mp h1
/-- A loaded disk. -/
theorem Rl.born {q : Int} {xs : List ((Nm × List Nat) × Nat)} {k : Dk} {im : List (Nm × List Nat)} (h : LdI q xs k) (hx : xs.map (·.1) = im) (hup : im.Pairwise fun a b => a.1 < b.1) : ∃ ν, Rl k.settled ν (rkB q im) := by
  have hnd : (xs.map (·.2)).Nodup := by
    have h1 := h.sum.files
    have h2 := (h.perm.map (·.2)).nodup_iff.mp h1
    rw [List.map_map] at h2
    exact h2
  have hxl : xs.length = im.length := by rw [← hx, List.length_map]
  have hidx : ∀ i (hi : i < xs.length), xs.findIdx (fun x => x.2 == xs[i].2) = i := fun i hi => by
    rw [List.findIdx_eq hi]
    refine ⟨by simp, fun j hj => ?_⟩
    have hne : xs[j].2 ≠ xs[i].2 := List.pairwise_iff_getElem.mp (List.pairwise_map.mp hnd) j i (by omega) hi hj
    simpa using hne
  have hlv : ∀ G, k.live G → ∃ i, ∃ hi : i < xs.length, xs[i].2 = G := fun G hG => by
    obtain ⟨x, hx1, hx2⟩ := h.lv G hG
    obtain ⟨i, hi, e⟩ := List.getElem_of_mem hx1
    exact ⟨i, hi, by rw [e]; exact hx2⟩
  have hdl : xs.map (fun x => (x.1.1, xs.findIdx (fun y => y.2 == x.2))) = dirI im 0 := by
    refine List.ext_getElem? (fun i => ?_)
    rw [dirI_at, ← hx, List.getElem?_map, List.getElem?_map]
    by_cases hi : i < xs.length
    · rw [List.getElem?_eq_getElem hi]
      simp only [Option.map_some]
      rw [hidx i hi, Nat.zero_add]
    · rw [List.getElem?_eq_none (by omega)]; rfl
  refine ⟨fun G => xs.findIdx (fun x => x.2 == G), ⟨fun G H hG hH e => ?_, by simp [rkB], fun G hG => ?_, rfl, fun j hj => ?_, fun j hj => ?_⟩, fun l hl => ?_, h.quota.symm, h.on.dead.symm, h.ops.symm, ?_⟩
  · obtain ⟨i, hi, rfl⟩ := hlv G hG
    obtain ⟨j, hj, rfl⟩ := hlv H hH
    have e' : xs.findIdx (fun x => x.2 == xs[i].2) = xs.findIdx (fun x => x.2 == xs[j].2) := e
    rw [hidx i hi, hidx j hj] at e'
    subst e'
    rfl
  · obtain ⟨i, hi, rfl⟩ := hlv G hG
    have hf := (h.file _ (List.getElem_mem hi)).2
    show xs.findIdx (fun x => x.2 == xs[i].2) < (im.map fun p => [p.2]).length ∧ (im.map fun p => [p.2]).getD (xs.findIdx (fun x => x.2 == xs[i].2)) [] = sts (k.file xs[i].2) ∧ (im.map fun _ => [(-1 : Int)]).getD (xs.findIdx (fun x => x.2 == xs[i].2)) [] = grs (k.file xs[i].2)
    have him : im[i]? = some xs[i].1 := by rw [← hx, List.getElem?_map, List.getElem?_eq_getElem hi]; rfl
    rw [hidx i hi, hf]
    refine ⟨by rw [List.length_map, ← hxl]; exact hi, ?_, ?_⟩
    · rw [List.getD_eq_getElem?_getD, List.getElem?_map, him]; rfl
    · rw [List.getD_eq_getElem?_getD, List.getElem?_map, him]; rfl
  · have e0 : j = 0 := by have : j ≤ 0 := hj; omega
    subst e0
    show (dirI im 0).Perm (k.L.map fun q => (q.1, xs.findIdx (fun x => x.2 == q.2)))
    have h1 := h.perm.map fun q : Nm × Nat => (q.1, xs.findIdx (fun x => x.2 == q.2))
    rw [List.map_map] at h1
    rw [← hdl]
    exact h1.symm
  · have e0 : j = 0 := by have : j ≤ 0 := hj; omega
    subst e0
    exact h.sum.keys
  · have : l = dirI im 0 := by simpa [rkB] using hl
    rw [this]; exact Asc.dirI hup 0
  · show (-1 : Int) = if k.fused = true then _ else -1
    rw [h.on.fused]; rfl
end Go.Proofs.YthcnhjmkcekdaaaGreat
