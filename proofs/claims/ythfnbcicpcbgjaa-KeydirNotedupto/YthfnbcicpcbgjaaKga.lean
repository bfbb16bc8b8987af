import Derived.Test.YthfnbcicpcbgjaaKmd
/-! keydir: entries that are noted, in whatever order. -/
namespace Go.Proofs.Ythfnbcicpcbgjaa
open Go.RowKit Plain
set_option linter.unusedVariables false
set_option linter.unusedSimpArgs false

theorem isSome_ke' (o : Option Kr) : (o.map Kr.ke).isSome = o.isSome := by cases o <;> rfl
theorem findL_mem {l : List Ke} (hs : Srt l) {x : Ke} (hx : x ∈ l) : findL x.key l = some x := by
  obtain ⟨ll, lr, e⟩ := List.append_of_mem hx
  subst e
  exact findL_eq hs (kc_self _)
/-- Rising lists that tell the same of each key are one. -/
theorem Srt.ext : ∀ {l1 l2 : List Ke}, Srt l1 → Srt l2 → (∀ key, findL key l1 = findL key l2) → l1 = l2
  | [], [], _, _, _ => rfl
  | [], y :: ys, h1, h2, h => by
    have e := h y.key
    rw [findL_mem h2 (by simp)] at e
    simp [findL] at e
  | x :: xs, [], h1, h2, h => by
    have e := h x.key
    rw [findL_mem h1 (by simp)] at e
    simp [findL] at e
  | x :: xs, y :: ys, h1, h2, h => by
    have p1 := h1.parts (ll := [])
    have p2 := h2.parts (ll := [])
    have ex := h x.key
    rw [findL_mem h1 (by simp)] at ex
    have ey := h y.key
    rw [findL_mem h2 (by simp)] at ey
    have mx := (findL_is ex.symm).1
    have my := (findL_is ey).1
    have hxy : x = y := by
      simp at mx my
      rcases mx with mx | mx
      · exact mx
      · rcases my with my | my
        · exact my.symm
        · have k1 := p2.2.2.2.1 x mx
          have k2 := p1.2.2.2.1 y my
          have k3 := kc_trans k1 k2
          rw [kc_self] at k3
          omega
    subst hxy
    have ht : ∀ key, findL key xs = findL key ys := fun key => by
      by_cases hk : kc key x.key = 0
      · rw [findL_none (l := xs) (fun z hz => by
          have h3 := p1.2.2.2.1 z hz
          rw [kc_zero hk]; omega), findL_none (l := ys) (fun z hz => by
          have h3 := p2.2.2.2.1 z hz
          rw [kc_zero hk]; omega)]
      · have e := h key
        rw [findL_cons, findL_cons, if_neg hk, if_neg hk] at e
        exact e
    rw [Srt.ext p1.2.1 p2.2.1 ht]

def noteK (l : List Ke) (x : Kr) : List Ke := if okKey x.key then noteL x.key x.ke.e l else l
/-- o is the one of the items with that key whose offset is the greatest. -/
def Best (key : ByteArray) (S : List Kr) (o : Option Kr) : Prop := match o with
  | none => ∀ x ∈ S, okKey x.key = true → x.key ≠ key
  | some r => r ∈ S ∧ okKey r.key = true ∧ r.key = key ∧ ∀ x ∈ S, okKey x.key = true → x.key = key → x.off ≤ r.off
/-- l is what stands when the items S have been noted. -/
def NotedBy (S : List Kr) (l : List Ke) : Prop := Srt l ∧ ∀ key, ∃ o, Best key S o ∧ findL key l = o.map Kr.ke
theorem NotedBy.nil : NotedBy [] [] := ⟨Srt.nil, fun key => ⟨none, by intro x hx; simp at hx, rfl⟩⟩
theorem noteL_srt {key : ByteArray} {e : En} {l : List Ke} (h : Srt l) : Srt (noteL key e l) := by
  unfold noteL
  split
  · exact h.ins key e
  · exact h
theorem find_note (key k : ByteArray) (e : En) (l : List Ke) : findL key (noteL k e l) = if kc key k = 0 ∧ noteB k e l = true then some ⟨k, e⟩ else findL key l := by
  unfold noteL
  by_cases hb : noteB k e l = true
  · rw [if_pos hb, findL_ins]
    by_cases hk : kc key k = 0
    · rw [if_pos hk, if_pos ⟨hk, hb⟩]
    · rw [if_neg hk, if_neg (fun h => hk h.1)]
  · rw [if_neg hb, if_neg (fun h => hb h.2)]
theorem NotedBy.note {S : List Kr} {l : List Ke} (h : NotedBy S l) (x : Kr) : NotedBy (x :: S) (noteK l x) := by
  obtain ⟨hs, hf⟩ := h
  unfold noteK
  by_cases hx : okKey x.key = true
  · rw [if_pos hx]
    refine ⟨noteL_srt hs, fun key => ?_⟩
    obtain ⟨o, ho, hfo⟩ := hf key
    rw [find_note]
    by_cases hk : kc key x.key = 0
    · have hke := kc_zero hk
      subst hke
      have hnb : noteB x.key x.ke.e l = !(o.isSome && decide (x.off ≤ (gotE (o.map Kr.ke)).off)) := by
        unfold noteB
        rw [hfo, isSome_ke']
        rfl
      cases o with
      | none =>
        rw [hnb]
        refine ⟨some x, ⟨by simp, hx, rfl, fun y hy hyo hyk => ?_⟩, by simp [kc_self]; rfl⟩
        simp at hy
        rcases hy with hy | hy
        · rw [hy]; omega
        · exact absurd hyk (ho y hy hyo)
      | some r =>
        obtain ⟨r1, r2, r3, r4⟩ := ho
        have hgo : (gotE (some r.ke)).off = r.off := rfl
        by_cases hle : x.off ≤ r.off
        · have e : noteB x.key x.ke.e l = false := by rw [hnb]; simp [hgo, hle]
          refine ⟨some r, ⟨by simp [r1], r2, r3, fun y hy hyo hyk => ?_⟩, by simp [e, hfo]⟩
          simp at hy
          rcases hy with hy | hy
          · rw [hy]; exact hle
          · exact r4 y hy hyo hyk
        · have e : noteB x.key x.ke.e l = true := by rw [hnb]; simp [hgo]; omega
          refine ⟨some x, ⟨by simp, hx, rfl, fun y hy hyo hyk => ?_⟩, by simp [e, kc_self]; rfl⟩
          simp at hy
          rcases hy with hy | hy
          · rw [hy]; omega
          · have := r4 y hy hyo hyk; omega
    · rw [if_neg (fun h => hk h.1)]
      have hne : x.key ≠ key := fun e => hk (by rw [← e]; exact kc_self _)
      refine ⟨o, ?_, hfo⟩
      cases o with
      | none =>
        intro y hy hyo
        simp at hy
        rcases hy with hy | hy
        · rw [hy]; exact hne
        · exact ho y hy hyo
      | some r =>
        obtain ⟨r1, r2, r3, r4⟩ := ho
        refine ⟨by simp [r1], r2, r3, fun y hy hyo hyk => ?_⟩
        simp at hy
        rcases hy with hy | hy
        · rw [hy] at hyk; exact absurd hyk hne
        · exact r4 y hy hyo hyk
  · rw [if_neg hx]
    refine ⟨hs, fun key => ?_⟩
    obtain ⟨o, ho, hfo⟩ := hf key
    refine ⟨o, ?_, hfo⟩
    cases o with
    | none =>
      intro y hy hyo
      simp at hy
      rcases hy with hy | hy
      · rw [hy] at hyo; exact absurd hyo hx
      · exact ho y hy hyo
    | some r =>
      obtain ⟨r1, r2, r3, r4⟩ := ho
      refine ⟨by simp [r1], r2, r3, fun y hy hyo hyk => ?_⟩
      simp at hy
      rcases hy with hy | hy
      · rw [hy] at hyo; exact absurd hyo hx
      · exact r4 y hy hyo hyk
theorem Best.mem {key : ByteArray} {S T : List Kr} {o : Option Kr} (h : Best key S o) (hm : ∀ x, x ∈ S ↔ x ∈ T) : Best key T o := by
  cases o with
  | none => exact fun x hx => h x ((hm x).mpr hx)
  | some r => exact ⟨(hm r).mp h.1, h.2.1, h.2.2.1, fun x hx => h.2.2.2 x ((hm x).mpr hx)⟩
/-- Items of unlike offsets: the best one is one. -/
theorem Best.unique {key : ByteArray} {S : List Kr} {o o' : Option Kr} (h : Best key S o) (h' : Best key S o') (hu : ∀ x ∈ S, ∀ y ∈ S, x.off = y.off → x = y) : o = o' := by
  cases o with
  | none =>
    cases o' with
    | none => rfl
    | some r => exact absurd h'.2.2.1 (h r h'.1 h'.2.1)
  | some r =>
    cases o' with
    | none => exact absurd h.2.2.1 (h' r h.1 h.2.1)
    | some r' =>
      have h1 := h.2.2.2 r' h'.1 h'.2.1 h'.2.2.1
      have h2 := h'.2.2.2 r h.1 h.2.1 h.2.2.1
      rw [hu r h.1 r' h'.1 (by omega)]
theorem NotedBy.unique {S T : List Kr} {l l' : List Ke} (h : NotedBy S l) (h' : NotedBy T l') (hm : ∀ x, x ∈ S ↔ x ∈ T) (hu : ∀ x ∈ S, ∀ y ∈ S, x.off = y.off → x = y) : l = l' :=
  Srt.ext h.1 h'.1 fun key => by
    obtain ⟨o, ho, e⟩ := h.2 key
    obtain ⟨o', ho', e'⟩ := h'.2 key
    rw [e, e', ho.unique (ho'.mem fun x => (hm x).symm) hu]
end Go.Proofs.Ythfnbcicpcbgjaa
