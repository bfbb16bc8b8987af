import Derived.Test.YtmcfcbonmmifeaaDoorJpr
/-! dedupe: the plain lists. -/
namespace Go.Proofs.YtmcfcbonmmifeaaDoor
open Go.RowKit Plain
set_option linter.unusedVariables false

/-- A producer that may be. -/
structure Pr.Right (p : Pr) : Prop where
  p1 : 1 ≤ p.pid
  p2 : p.pid ≤ 4294967295
  s1 : 1 ≤ p.seq
  s2 : p.seq ≤ 1099511627775
  o1 : 0 ≤ p.off
  o2 : p.off ≤ 1099511627775
def Pr.rightB (p : Pr) : Bool := decide (1 ≤ p.pid) && decide (p.pid ≤ 4294967295) && decide (1 ≤ p.seq) && decide (p.seq ≤ 1099511627775) && decide (0 ≤ p.off) && decide (p.off ≤ 1099511627775)
theorem Pr.rightB_iff (p : Pr) : p.rightB = true ↔ p.Right := by
  unfold Pr.rightB
  simp only [Bool.and_eq_true, decide_eq_true_eq]
  constructor
  · rintro ⟨⟨⟨⟨⟨h1, h2⟩, h3⟩, h4⟩, h5⟩, h6⟩; exact ⟨h1, h2, h3, h4, h5, h6⟩
  · rintro ⟨h1, h2, h3, h4, h5, h6⟩; exact ⟨⟨⟨⟨⟨h1, h2⟩, h3⟩, h4⟩, h5⟩, h6⟩
theorem Pr.Right.ok {p : Pr} (h : p.Right) : p.Ok := by
  obtain ⟨h1, h2, h3, h4, h5, h6⟩ := h
  refine ⟨?_, ?_, ?_⟩ <;> (unfold I64; omega)
/-- Pids rise. -/
abbrev Rise (L : List Pr) : Prop := L.Pairwise fun a b => a.pid < b.pid
/-- The rest of a list is right behind a number. -/
def riseB : Int → List Pr → Bool
  | _, [] => true
  | a, p :: r => decide (a < p.pid) && p.rightB && riseB p.pid r
def okL (L : List Pr) : Bool := decide (L.length ≤ 64) && riseB 0 L
/-- A right list. -/
structure TabL (L : List Pr) : Prop where
  len : L.length ≤ 64
  rise : Rise L
  right : ∀ p ∈ L, p.Right
theorem riseB_iff : ∀ (L : List Pr) (a : Int), riseB a L = true ↔ (∀ p ∈ L, a < p.pid ∧ p.Right) ∧ Rise L
  | [], a => by simp [riseB]
  | p :: r, a => by
    simp only [riseB, Bool.and_eq_true, decide_eq_true_eq, riseB_iff r p.pid, Pr.rightB_iff, List.pairwise_cons, List.mem_cons, Rise]
    constructor
    · rintro ⟨⟨h1, h2⟩, h3, h4⟩
      refine ⟨?_, fun q hq => (h3 q hq).1, h4⟩
      rintro q (rfl | hq)
      · exact ⟨h1, h2⟩
      · have := (h3 q hq).1; exact ⟨by omega, (h3 q hq).2⟩
    · rintro ⟨h1, h2, h3⟩
      exact ⟨h1 p (.inl rfl), fun q hq => ⟨h2 q hq, (h1 q (.inr hq)).2⟩, h3⟩
theorem okL_iff (L : List Pr) : okL L = true ↔ TabL L := by
  unfold okL
  simp only [Bool.and_eq_true, decide_eq_true_eq, riseB_iff]
  constructor
  · rintro ⟨h1, h2, h3⟩; exact ⟨h1, h3, fun p hp => (h2 p hp).2⟩
  · rintro ⟨h1, h2, h3⟩
    exact ⟨h1, fun p hp => ⟨by have := (h3 p hp).p1; omega, h3 p hp⟩, h2⟩

def lookP (L : List Pr) (k : Int) : Option Pr := L.find? fun p => p.pid == k
def insP (x : Pr) : List Pr → List Pr
  | [] => [x]
  | y :: r => if x.pid < y.pid then x :: y :: r else y :: insP x r
def delP (L : List Pr) (k : Int) : List Pr := L.filter fun p => !(p.pid == k)
def layP (L : List Pr) (x : Pr) : List Pr := insP x (delP L x.pid)

theorem mem_insP (x y : Pr) : ∀ L, y ∈ insP x L ↔ y = x ∨ y ∈ L
  | [] => by simp [insP]
  | z :: r => by
    unfold insP
    split
    · simp
    · simp only [List.mem_cons, mem_insP x y r]
      constructor
      · rintro (h | h | h) <;> simp [h]
      · rintro (h | h | h) <;> simp [h]
theorem len_insP (x : Pr) : ∀ L, (insP x L).length = L.length + 1
  | [] => rfl
  | z :: r => by
    unfold insP
    split
    · simp
    · simp [len_insP x r]
theorem rise_insP (x : Pr) : ∀ L, Rise L → (∀ y ∈ L, y.pid ≠ x.pid) → Rise (insP x L)
  | [], _, _ => by simp [insP]
  | z :: r, h, hn => by
    unfold insP
    rw [Rise, List.pairwise_cons] at h
    split
    · rename_i hlt
      rw [Rise, List.pairwise_cons, List.pairwise_cons]
      refine ⟨?_, h⟩
      intro q hq
      rcases List.mem_cons.mp hq with rfl | hq
      · exact hlt
      · have := h.1 q hq; omega
    · rename_i hlt
      rw [Rise, List.pairwise_cons]
      refine ⟨?_, rise_insP x r h.2 fun y hy => hn y (List.mem_cons_of_mem _ hy)⟩
      intro q hq
      rcases (mem_insP x q r).mp hq with rfl | hq
      · have := hn z (List.mem_cons_self ..); omega
      · exact h.1 q hq
theorem mem_delP {L : List Pr} {k : Int} {y : Pr} : y ∈ delP L k ↔ y ∈ L ∧ y.pid ≠ k := by
  unfold delP
  simp [List.mem_filter]
theorem rise_delP {L : List Pr} (h : Rise L) (k : Int) : Rise (delP L k) := List.Pairwise.filter _ h
theorem mem_layP {L : List Pr} {x y : Pr} : y ∈ layP L x ↔ y = x ∨ (y ∈ L ∧ y.pid ≠ x.pid) := by
  unfold layP
  rw [mem_insP, mem_delP]
theorem rise_layP {L : List Pr} (h : Rise L) (x : Pr) : Rise (layP L x) := rise_insP x _ (rise_delP h _) fun y hy => (mem_delP.mp hy).2
theorem lookP_some {L : List Pr} {k : Int} {p : Pr} (h : lookP L k = some p) : p ∈ L ∧ p.pid = k := by
  unfold lookP at h
  have h1 := List.find?_some h
  exact ⟨List.mem_of_find?_eq_some h, by simpa using h1⟩
theorem lookP_none {L : List Pr} {k : Int} (h : lookP L k = none) : ∀ p ∈ L, p.pid ≠ k := by
  unfold lookP at h
  intro p hp e
  have := List.find?_eq_none.mp h p hp
  simp [e] at this
theorem lookP_of {L : List Pr} (hr : Rise L) {p : Pr} (hp : p ∈ L) : lookP L p.pid = some p := by
  induction L with
  | nil => simp at hp
  | cons z r ih =>
    rw [Rise, List.pairwise_cons] at hr
    unfold lookP
    rcases List.mem_cons.mp hp with rfl | hp
    · simp
    · rw [List.find?_cons_of_neg (by have := hr.1 p hp; simp; omega)]
      exact ih hr.2 hp
theorem delP_none {L : List Pr} {k : Int} (h : lookP L k = none) : delP L k = L := by
  unfold delP
  rw [List.filter_eq_self]
  intro p hp
  have := lookP_none h p hp
  simp [this]
theorem len_delP {L : List Pr} (hr : Rise L) {k : Int} {p : Pr} (h : lookP L k = some p) : (delP L k).length + 1 = L.length := by
  induction L with
  | nil => simp [lookP] at h
  | cons z r ih =>
    rw [Rise, List.pairwise_cons] at hr
    by_cases e : z.pid = k
    · have : delP (z :: r) k = r := by
        unfold delP
        rw [List.filter_cons_of_neg (by simp [e])]
        rw [List.filter_eq_self]
        intro q hq
        have := hr.1 q hq
        simp; omega
      rw [this]; simp
    · have h2 : lookP r k = some p := by
        unfold lookP at h ⊢
        rwa [List.find?_cons_of_neg (by simp [e])] at h
      have : delP (z :: r) k = z :: delP r k := by
        unfold delP
        rw [List.filter_cons_of_pos (by simp [e])]
      rw [this]
      have := ih hr.2 h2
      simp; omega
theorem len_layP {L : List Pr} (hr : Rise L) (x : Pr) : (layP L x).length = if (lookP L x.pid).isSome then L.length else L.length + 1 := by
  unfold layP
  rw [len_insP]
  cases h : lookP L x.pid with
  | none => simp [delP_none h]
  | some p => simp [len_delP hr h]
theorem lookP_layP {L : List Pr} (hr : Rise L) (x : Pr) (k : Int) : lookP (layP L x) k = if k = x.pid then some x else lookP L k := by
  have hr2 := rise_layP hr x
  by_cases e : k = x.pid
  · subst e
    rw [if_pos rfl]
    exact lookP_of hr2 (mem_layP.mpr (.inl rfl))
  · rw [if_neg e]
    cases h : lookP L k with
    | some p =>
      obtain ⟨h1, h2⟩ := lookP_some h
      rw [← h2]
      exact lookP_of hr2 (mem_layP.mpr (.inr ⟨h1, by omega⟩))
    | none =>
      unfold lookP
      rw [List.find?_eq_none]
      intro p hp
      rcases mem_layP.mp hp with rfl | ⟨h1, h2⟩
      · simp; omega
      · have := lookP_none h p h1; simp [this]
/-- Two rising lists of the same producers are one. -/
theorem rise_ext : ∀ {L M : List Pr}, Rise L → Rise M → (∀ p, p ∈ L ↔ p ∈ M) → L = M
  | [], [], _, _, _ => rfl
  | [], q :: M, _, _, h => absurd ((h q).mpr (List.mem_cons_self ..)) (by simp)
  | p :: L, [], _, _, h => absurd ((h p).mp (List.mem_cons_self ..)) (by simp)
  | p :: L, q :: M, hL, hM, h => by
    rw [Rise, List.pairwise_cons] at hL hM
    have e : p = q := by
      have h1 := (h p).mp (List.mem_cons_self ..)
      have h2 := (h q).mpr (List.mem_cons_self ..)
      rcases List.mem_cons.mp h1 with h1 | h1
      · exact h1
      · rcases List.mem_cons.mp h2 with h2 | h2
        · exact h2.symm
        · have a := hM.1 p h1; have b := hL.1 q h2; omega
    subst e
    congr 1
    refine rise_ext hL.2 hM.2 fun x => ?_
    have hx := h x
    simp only [List.mem_cons] at hx
    constructor
    · intro hm
      rcases hx.mp (.inr hm) with rfl | h2
      · have := hL.1 _ hm; omega
      · exact h2
    · intro hm
      rcases hx.mpr (.inr hm) with rfl | h2
      · have := hM.1 _ hm; omega
      · exact h2
theorem TabL.lay {L : List Pr} (h : TabL L) {x : Pr} (hx : x.Right) (hl : (lookP L x.pid).isSome = true ∨ L.length < 64) : TabL (layP L x) := by
  refine ⟨?_, rise_layP h.rise x, ?_⟩
  · rw [len_layP h.rise]
    have := h.len
    split
    · exact this
    · rename_i h2
      rcases hl with h3 | h3
      · exact absurd h3 h2
      · omega
  · intro p hp
    rcases mem_layP.mp hp with rfl | ⟨h1, _⟩
    · exact hx
    · exact h.right p h1
theorem TabL.nil : TabL [] := ⟨by simp, by simp, by simp⟩
theorem TabL.ok {L : List Pr} (h : TabL L) : ∀ p ∈ L, p.Ok := fun p hp => (h.right p hp).ok

/-- May a record of that producer have that number? -/
def okNum (pid seq : Int) : Bool := decide (1 ≤ pid) && decide (pid ≤ 4294967295) && decide (1 ≤ seq) && decide (seq ≤ 1099511627775)
def okOff (off : Int) : Bool := decide (0 ≤ off) && decide (off ≤ 1099511627775)
/-- Judge's answer. -/
def jd (L : List Pr) (pid seq : Int) : Int × Int :=
  if pid = 0 ∧ seq = 0 then (0, 0)
  else if okNum pid seq = false then (-1, 0)
  else match lookP L pid with
    | some p => if seq = p.seq then (2, p.off) else if seq < p.seq then (3, 0) else if p.seq + 1 < seq then (4, 0) else (1, 0)
    | none => if 1 < seq then (4, 0) else if 64 ≤ L.length then (5, 0) else (1, 0)
/-- The error of a verdict. -/
def rfs (v : Int) : Int := if v = -1 then 93 else if v = 3 then 91 else if v = 4 then 90 else if v = 5 then 92 else 0
/-- Note's answer, and the list behind it. -/
def noteE (L : List Pr) (pid seq off : Int) : Int := if rfs (jd L pid seq).1 ≠ 0 then rfs (jd L pid seq).1 else if okOff off = false then 3 else 0
def noteL (L : List Pr) (pid seq off : Int) : List Pr := if noteE L pid seq off = 0 ∧ (jd L pid seq).1 = 1 then layP L ⟨pid, seq, off⟩ else L
theorem jd_cases (L : List Pr) (pid seq : Int) : (jd L pid seq).1 = -1 ∨ (jd L pid seq).1 = 0 ∨ (jd L pid seq).1 = 1 ∨ (jd L pid seq).1 = 2 ∨ (jd L pid seq).1 = 3 ∨ (jd L pid seq).1 = 4 ∨ (jd L pid seq).1 = 5 := by
  unfold jd
  (repeat' split) <;> simp
theorem jd_fresh {L : List Pr} {pid seq : Int} (h : (jd L pid seq).1 = 1) : okNum pid seq = true ∧ ((lookP L pid).isSome = true ∨ L.length < 64) := by
  unfold jd at h
  split at h
  · simp at h
  · split at h
    · simp at h
    · rename_i h2
      refine ⟨by simpa using h2, ?_⟩
      split at h
      · rename_i he; left; rw [he]; rfl
      · split at h
        · simp at h
        · split at h
          · simp at h
          · right; omega
theorem okNum_iff (pid seq : Int) : okNum pid seq = true ↔ 1 ≤ pid ∧ pid ≤ 4294967295 ∧ 1 ≤ seq ∧ seq ≤ 1099511627775 := by
  unfold okNum
  simp only [Bool.and_eq_true, decide_eq_true_eq, and_assoc]
theorem okOff_iff (off : Int) : okOff off = true ↔ 0 ≤ off ∧ off ≤ 1099511627775 := by
  unfold okOff
  simp only [Bool.and_eq_true, decide_eq_true_eq]
theorem TabL.note {L : List Pr} (h : TabL L) (pid seq off : Int) : TabL (noteL L pid seq off) := by
  unfold noteL
  split
  · rename_i h1
    obtain ⟨h1, h2⟩ := h1
    obtain ⟨h3, h4⟩ := jd_fresh h2
    have h5 : okOff off = true := by
      unfold noteE at h1
      split at h1
      · rename_i h6; exact absurd h1 h6
      · split at h1
        · simp at h1
        · rename_i h6; simpa using h6
    have a := (okNum_iff _ _).mp h3
    have b := (okOff_iff _).mp h5
    exact h.lay (x := ⟨pid, seq, off⟩) ⟨a.1, a.2.1, a.2.2.1, a.2.2.2, b.1, b.2⟩ h4
  · exact h
end Go.Proofs.YtmcfcbonmmifeaaDoor
