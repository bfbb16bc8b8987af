import Derived.Test.YtmcfcbonmmifeaaDoorJa
import Derived.Test.YtmcfcbonmmifeaaDoorCk
/-! dedupe: what Fold answers. -/
namespace Go.Proofs.YtmcfcbonmmifeaaDoor
open Go.RowKit Plain
set_option linter.unusedVariables false

def Rc.pr (x : Rc) : Pr := ⟨x.p, x.q, x.o⟩
def passE (L : List Pr) (x : Rc) : Int := if chk x ≠ 0 then chk x else if x.p = 0 then 0 else if lookP L x.p = none ∧ 64 ≤ L.length then 92 else 0
def passL (L : List Pr) (x : Rc) : List Pr := if x.p = 0 then L else match lookP L x.p with
  | some p => if p.seq < x.q then layP L x.pr else L
  | none => layP L x.pr
def foldE : List Pr → List Rc → Int
  | _, [] => 0
  | L, x :: r => if passE L x ≠ 0 then passE L x else foldE (passL L x) r
def foldL : List Pr → List Rc → List Pr
  | L, [] => L
  | L, x :: r => foldL (passL L x) r
def fE (ps : List Pr) (rs : List Rc) : Int := if okL ps = true then foldE ps rs else 92
def fL (ps : List Pr) (rs : List Rc) : List Pr := if okL ps = true ∧ foldE ps rs = 0 then foldL ps rs else []

theorem chk_right {x : Rc} (h : chk x = 0) : (x.p = 0 ∧ x.q = 0) ∨ x.pr.Right := by
  unfold chk at h
  split at h
  · simp at h
  split at h
  · simp at h
  rename_i ho
  split at h
  · simp at h
  split at h
  · simp at h
  rename_i hp
  clear h
  unfold prod at hp
  split at hp
  · rename_i h0
    left; exact ⟨h0, by simpa using hp⟩
  · right
    simp only [inR, Bool.and_eq_false_iff, decide_eq_false_iff_not, not_or] at hp ho
    exact ⟨by show 1 ≤ x.p; omega, by show x.p ≤ _; omega, by show 1 ≤ x.q; omega, by show x.q ≤ _; omega, by show 0 ≤ x.o; omega, by show x.o ≤ _; omega⟩
theorem passE_zero {L : List Pr} {x : Rc} (h : passE L x = 0) : chk x = 0 ∧ (x.p = 0 ∨ ((lookP L x.p).isSome = true ∨ L.length < 64)) := by
  unfold passE at h
  split at h
  · rename_i h1; exact absurd h h1
  · rename_i h1
    refine ⟨by simpa using h1, ?_⟩
    split at h
    · rename_i h0; exact .inl h0
    · right
      split at h
      · simp at h
      · rename_i h2
        cases h3 : lookP L x.p with
        | some p => left; rfl
        | none => right; simp only [h3, true_and] at h2; omega
theorem TabL.pass {L : List Pr} (h : TabL L) {x : Rc} (he : passE L x = 0) : TabL (passL L x) := by
  obtain ⟨h1, h2⟩ := passE_zero he
  unfold passL
  split
  · exact h
  · rename_i h0
    have hr : x.pr.Right := (chk_right h1).resolve_left fun h => h0 h.1
    have hl := h2.resolve_left h0
    split
    · split
      · exact h.lay hr hl
      · exact h
    · exact h.lay hr hl
theorem foldE_hit {L : List Pr} {x : Rc} {r : List Rc} (h : passE L x ≠ 0) : foldE L (x :: r) = passE L x := by simp only [foldE]; exact if_pos h
theorem foldE_go {L : List Pr} {x : Rc} {r : List Rc} (h : passE L x = 0) : foldE L (x :: r) = foldE (passL L x) r := by simp only [foldE]; exact if_neg (by simp [h])
theorem foldE_app : ∀ (a b : List Rc) (L : List Pr), foldE L (a ++ b) = if foldE L a ≠ 0 then foldE L a else foldE (foldL L a) b
  | [], b, L => by simp [foldE, foldL]
  | x :: a, b, L => by
    by_cases h : passE L x = 0
    · have := foldE_app a b (passL L x)
      rw [List.cons_append, foldE_go h, this]
      simp only [foldE_go h, foldL]
    · simp only [List.cons_append, foldE_hit h]
      rw [if_pos h]
theorem foldL_app : ∀ (a b : List Rc) (L : List Pr), foldL L (a ++ b) = foldL (foldL L a) b
  | [], b, L => rfl
  | x :: a, b, L => by simp only [List.cons_append, foldL]; exact foldL_app a b _
theorem foldE_cons {L : List Pr} {x : Rc} {r : List Rc} (h : foldE L (x :: r) = 0) : passE L x = 0 ∧ foldE (passL L x) r = 0 := by
  simp only [foldE] at h
  split at h
  · rename_i h1; exact absurd h h1
  · rename_i h1; exact ⟨by simpa using h1, h⟩
theorem TabL.fold : ∀ (r : List Rc) {L : List Pr}, TabL L → foldE L r = 0 → TabL (foldL L r)
  | [], L, h, _ => h
  | x :: r, L, h, he => TabL.fold r (h.pass (foldE_cons he).1) (foldE_cons he).2
/-- A record that the table knows of. -/
def Known (L : List Pr) (x : Rc) : Prop := chk x = 0 ∧ (x.p = 0 ∨ ∃ p, lookP L x.p = some p ∧ x.q ≤ p.seq)
theorem Known.passE {L : List Pr} {x : Rc} (h : Known L x) : passE L x = 0 := by
  obtain ⟨h1, h2⟩ := h
  unfold Go.Proofs.YtmcfcbonmmifeaaDoor.passE
  rw [if_neg (by simp [h1])]
  split
  · rfl
  · rename_i h0
    obtain ⟨p, hp, _⟩ := h2.resolve_left h0
    rw [if_neg (by simp [hp])]
theorem Known.passL {L : List Pr} {x : Rc} (h : Known L x) : passL L x = L := by
  obtain ⟨h1, h2⟩ := h
  unfold Go.Proofs.YtmcfcbonmmifeaaDoor.passL
  split
  · rfl
  · rename_i h0
    obtain ⟨p, hp, hq⟩ := h2.resolve_left h0
    rw [hp]
    simp only
    rw [if_neg (by omega)]
theorem Known.after {L : List Pr} (hr : Rise L) {x y : Rc} (h : Known L y) : Known (Go.Proofs.YtmcfcbonmmifeaaDoor.passL L x) y := by
  obtain ⟨h1, h2⟩ := h
  refine ⟨h1, ?_⟩
  rcases h2 with h2 | ⟨p, hp, hq⟩
  · exact .inl h2
  right
  unfold Go.Proofs.YtmcfcbonmmifeaaDoor.passL
  split
  · exact ⟨p, hp, hq⟩
  · split
    · rename_i q hl
      split
      · rename_i hlt
        rw [lookP_layP hr]
        by_cases e : y.p = x.pr.pid
        · rw [if_pos e]
          have e' : y.p = x.p := e
          rw [e', hl] at hp
          injection hp with hp
          subst hp
          exact ⟨_, rfl, by show y.q ≤ x.q; omega⟩
        · rw [if_neg e]; exact ⟨p, hp, hq⟩
      · exact ⟨p, hp, hq⟩
    · rename_i hl
      rw [lookP_layP hr]
      by_cases e : y.p = x.pr.pid
      · have e' : y.p = x.p := e
        rw [e', hl] at hp
        simp at hp
      · rw [if_neg e]; exact ⟨p, hp, hq⟩
theorem Known.self {L : List Pr} (hr : Rise L) {x : Rc} (he : Go.Proofs.YtmcfcbonmmifeaaDoor.passE L x = 0) : Known (Go.Proofs.YtmcfcbonmmifeaaDoor.passL L x) x := by
  refine ⟨(passE_zero he).1, ?_⟩
  by_cases h0 : x.p = 0
  · exact .inl h0
  right
  unfold Go.Proofs.YtmcfcbonmmifeaaDoor.passL
  rw [if_neg h0]
  split
  · rename_i q hl
    split
    · exact ⟨x.pr, by rw [lookP_layP hr]; exact if_pos rfl, Int.le_refl _⟩
    · exact ⟨q, hl, by omega⟩
  · exact ⟨x.pr, by rw [lookP_layP hr]; exact if_pos rfl, Int.le_refl _⟩
theorem Known.fold : ∀ (r : List Rc) {L : List Pr}, TabL L → foldE L r = 0 → ∀ {y : Rc}, Known L y → Known (foldL L r) y
  | [], L, h, _, y, hy => hy
  | x :: r, L, h, he, y, hy => Known.fold r (h.pass (foldE_cons he).1) (foldE_cons he).2 (hy.after h.rise)
theorem Known.all : ∀ (r : List Rc) {L : List Pr}, TabL L → foldE L r = 0 → ∀ y ∈ r, Known (foldL L r) y
  | [], L, h, _, y, hy => by simp at hy
  | x :: r, L, h, he, y, hy => by
    obtain ⟨h1, h2⟩ := foldE_cons he
    rcases List.mem_cons.mp hy with rfl | hy
    · exact Known.fold r (h.pass h1) h2 (Known.self h.rise h1)
    · exact Known.all r (h.pass h1) h2 y hy
theorem Known.again : ∀ (c : List Rc) {L : List Pr}, (∀ y ∈ c, Known L y) → foldE L c = 0 ∧ foldL L c = L
  | [], L, _ => ⟨rfl, rfl⟩
  | x :: c, L, h => by
    have hx := h x (List.mem_cons_self ..)
    have ih := Known.again c (L := L) fun y hy => h y (List.mem_cons_of_mem _ hy)
    simp only [foldE, foldL, hx.passE, hx.passL, ne_eq, not_true_eq_false, if_false]
    exact ih
theorem fE_ok {ps : List Pr} {rs : List Rc} (h : fE ps rs = 0) : TabL ps ∧ foldE ps rs = 0 ∧ fL ps rs = foldL ps rs ∧ TabL (fL ps rs) := by
  unfold fE at h
  split at h
  · rename_i h1
    have ht := (okL_iff ps).mp h1
    have e : fL ps rs = foldL ps rs := by unfold fL; rw [if_pos ⟨h1, h⟩]
    exact ⟨ht, h, e, by rw [e]; exact TabL.fold rs ht h⟩
  · simp at h
theorem fL_bad {ps : List Pr} {rs : List Rc} (h : fE ps rs ≠ 0) : fL ps rs = [] := by
  unfold fL
  rw [if_neg]
  rintro ⟨h1, h2⟩
  unfold fE at h
  rw [if_pos h1] at h
  exact h h2
end Go.Proofs.YtmcfcbonmmifeaaDoor
