import Derived.Test.YtmcfcbonmmifeaaDoorJb
/-! dedupe: what was given, and the table: plain lists. -/
namespace Go.Proofs.YtmcfcbonmmifeaaDoor
open Go.RowKit Plain
set_option linter.unusedVariables false

/-- The offsets that a producer's numbers got. -/
structure Gv where
  pid : Int
  offs : List Int
def Gv.zero : Gv := ⟨0, []⟩
/-- The producer's place in the list. -/
def lookG (G : List Gv) (k : Int) : Option Nat := G.findIdx? fun g => g.pid == k
theorem lookG_some {G : List Gv} {k : Int} {i : Nat} (h : lookG G k = some i) : ∃ g, G[i]? = some g ∧ g.pid = k := by
  unfold lookG at h
  rw [List.findIdx?_eq_some_iff_getElem] at h
  obtain ⟨hi, h1, _⟩ := h
  exact ⟨G[i], by simp [hi], by simpa using h1⟩
theorem lookG_none {G : List Gv} {k : Int} (h : lookG G k = none) : ∀ g ∈ G, g.pid ≠ k := by
  unfold lookG at h
  rw [List.findIdx?_eq_none_iff] at h
  intro g hg e
  have := h g hg
  simp [e] at this
/-- The entry of a producer's offsets. -/
def Gv.pr (g : Gv) : Pr := ⟨g.pid, (g.offs.length : Int), g.offs.getLastD 0⟩
/-- The table stands for what was given. -/
structure OInv (L : List Pr) (G : List Gv) : Prop where
  tab : TabL L
  len : L.length = G.length
  ne : ∀ g ∈ G, g.offs ≠ []
  rel : ∀ g ∈ G, lookP L g.pid = some g.pr
  inv : ∀ k, (∀ g ∈ G, g.pid ≠ k) → lookP L k = none
theorem OInv.start : OInv [] [] := ⟨TabL.nil, rfl, by simp, by simp, by intro k _; rfl⟩
/-- What is given behind a record that is taken. -/
def takeG (G : List Gv) (pid off : Int) : List Gv := match lookG G pid with
  | some i => G.modify i fun g => ⟨g.pid, g.offs ++ [off]⟩
  | none => G ++ [⟨pid, [off]⟩]
/-- How many of a producer's records were taken. -/
def lastG (G : List Gv) (pid : Int) : Nat := match lookG G pid with
  | some i => ((G.getD i Gv.zero).offs).length
  | none => 0
theorem getLastD_snoc (l : List Int) (x : Int) : (l ++ [x]).getLastD 0 = x := by simp
theorem OInv.at {L : List Pr} {G : List Gv} (h : OInv L G) {pid : Int} {i : Nat} (hi : lookG G pid = some i) : ∃ g, G[i]? = some g ∧ g.pid = pid ∧ g.offs ≠ [] ∧ lastG G pid = g.offs.length ∧ lookP L pid = some g.pr := by
  obtain ⟨g, h1, h2⟩ := lookG_some hi
  have hm : g ∈ G := List.mem_of_getElem? h1
  refine ⟨g, h1, h2, h.ne g hm, ?_, ?_⟩
  · unfold lastG
    rw [hi]
    simp [List.getD_eq_getElem?_getD, h1]
  · have := h.rel g hm
    rwa [h2] at this
theorem OInv.gone {L : List Pr} {G : List Gv} (h : OInv L G) {pid : Int} (hi : lookG G pid = none) : lastG G pid = 0 ∧ lookP L pid = none := by
  refine ⟨?_, h.inv pid (lookG_none hi)⟩
  unfold lastG
  rw [hi]
/-- No producer stands twice. -/
def Lone (G : List Gv) : Prop := G.Pairwise fun a b => a.pid ≠ b.pid
theorem modify_mem {G : List Gv} {i : Nat} {f : Gv → Gv} {g : Gv} (hg : g ∈ G.modify i f) : ∃ j a, G[j]? = some a ∧ g = if i = j then f a else a := by
  obtain ⟨j, hj⟩ := List.mem_iff_getElem?.mp hg
  rw [List.getElem?_modify] at hj
  cases ha : G[j]? with
  | none => simp [ha] at hj
  | some a =>
    refine ⟨j, a, ha, ?_⟩
    rw [ha] at hj
    split at hj <;> simp_all
theorem Lone.take {G : List Gv} (h : Lone G) (pid off : Int) : Lone (takeG G pid off) := by
  unfold takeG
  split
  · rename_i i hi
    unfold Lone
    rw [List.pairwise_iff_getElem]
    intro a b ha hb hab
    rw [List.length_modify] at ha hb
    have := List.pairwise_iff_getElem.mp h a b ha hb hab
    rw [List.getElem_modify, List.getElem_modify]
    split <;> split <;> simpa using this
  · rename_i hi
    unfold Lone
    rw [List.pairwise_append]
    refine ⟨h, by simp, ?_⟩
    intro a ha b hb
    simp at hb
    subst hb
    exact lookG_none hi a ha
theorem Lone.index {G : List Gv} (h : Lone G) {i j : Nat} {a b : Gv} (hi : G[i]? = some a) (hj : G[j]? = some b) (e : a.pid = b.pid) : i = j := by
  obtain ⟨h1, h2⟩ := List.getElem?_eq_some_iff.mp hi
  obtain ⟨h3, h4⟩ := List.getElem?_eq_some_iff.mp hj
  have hp := List.pairwise_iff_getElem.mp h
  rcases Nat.lt_trichotomy i j with hl | hl | hl
  · have := hp i j h1 h3 hl; rw [h2, h4] at this; exact absurd e this
  · exact hl
  · have := hp j i h3 h1 hl; rw [h2, h4] at this; exact absurd e.symm this
/-- A record is taken. -/
theorem OInv.take {L : List Pr} {G : List Gv} (h : OInv L G) (hn : Lone G) {pid seq off : Int} (hr : Pr.Right ⟨pid, seq, off⟩) (hs : seq = (lastG G pid : Int) + 1) (hl : (lookG G pid).isSome = true ∨ G.length < 64) : OInv (layP L ⟨pid, seq, off⟩) (takeG G pid off) := by
  have hll : (lookP L pid).isSome = true ∨ L.length < 64 := by
    rcases hl with hl | hl
    · left
      obtain ⟨i, hi⟩ := Option.isSome_iff_exists.mp hl
      obtain ⟨g, _, _, _, _, h5⟩ := h.at hi
      rw [h5]; rfl
    · right; rw [h.len]; exact hl
  have hlook : ∀ k, lookP (layP L ⟨pid, seq, off⟩) k = if k = pid then some ⟨pid, seq, off⟩ else lookP L k := fun k => lookP_layP h.tab.rise _ k
  cases hi : lookG G pid with
  | some i =>
    obtain ⟨g, h1, h2, h3, h4, h5⟩ := h.at hi
    have eG : takeG G pid off = G.modify i fun g => ⟨g.pid, g.offs ++ [off]⟩ := by unfold takeG; rw [hi]
    refine ⟨h.tab.lay hr hll, ?_, ?_, ?_, ?_⟩
    · rw [len_layP h.tab.rise, eG, List.length_modify, if_pos (by rw [h5]; rfl)]
      exact h.len
    · intro x hx
      rw [eG] at hx
      obtain ⟨j, a, ha, rfl⟩ := modify_mem hx
      split
      · simp
      · exact h.ne a (List.mem_of_getElem? ha)
    · intro x hx
      rw [eG] at hx
      obtain ⟨j, a, ha, rfl⟩ := modify_mem hx
      split
      · rename_i e
        subst e
        rw [h1] at ha
        cases ha
        rw [hlook, if_pos (by exact h2)]
        unfold Gv.pr
        simp only [getLastD_snoc, List.length_append, List.length_cons, List.length_nil]
        rw [h2, hs, h4]
        congr 1
      · rename_i e
        rw [hlook, if_neg (fun e2 => e (hn.index h1 ha (h2.trans e2.symm)))]
        exact h.rel a (List.mem_of_getElem? ha)
    · intro k hk
      rw [hlook, if_neg]
      · refine h.inv k fun a ha => ?_
        obtain ⟨j, hj⟩ := List.mem_iff_getElem?.mp ha
        intro e
        refine hk (if i = j then (⟨a.pid, a.offs ++ [off]⟩ : Gv) else a) ?_ (by split <;> exact e)
        rw [eG]
        refine List.mem_of_getElem? (i := j) ?_
        rw [List.getElem?_modify, hj]
        split <;> simp_all
      · intro e
        refine hk ⟨g.pid, g.offs ++ [off]⟩ ?_ (h2.trans e.symm)
        rw [eG]
        refine List.mem_of_getElem? (i := i) ?_
        rw [List.getElem?_modify, h1]
        simp
  | none =>
    obtain ⟨h4, h5⟩ := h.gone hi
    have eG : takeG G pid off = G ++ [⟨pid, [off]⟩] := by unfold takeG; rw [hi]
    refine ⟨h.tab.lay hr hll, ?_, ?_, ?_, ?_⟩
    · rw [len_layP h.tab.rise, eG, List.length_append, if_neg (by rw [h5]; simp), h.len]; rfl
    · intro x hx
      rw [eG] at hx
      rcases List.mem_append.mp hx with hx | hx
      · exact h.ne x hx
      · simp at hx; subst hx; simp
    · intro x hx
      rw [eG] at hx
      rcases List.mem_append.mp hx with hx | hx
      · rw [hlook, if_neg (lookG_none hi x hx)]
        exact h.rel x hx
      · simp at hx; subst hx
        rw [hlook, if_pos rfl]
        unfold Gv.pr
        rw [hs, h4]
        rfl
    · intro k hk
      rw [eG] at hk
      rw [hlook, if_neg (fun e => hk ⟨pid, [off]⟩ (by simp) e.symm)]
      exact h.inv k fun a ha => hk a (List.mem_append.mpr (.inl ha))
/-- Each entry of the table was given. -/
theorem OInv.back {L : List Pr} {G : List Gv} (h : OInv L G) {p : Pr} (hp : p ∈ L) : ∃ i g, lookG G p.pid = some i ∧ G[i]? = some g ∧ g.offs ≠ [] ∧ p.seq = (g.offs.length : Int) ∧ p.off = g.offs.getLastD 0 := by
  have h1 := lookP_of h.tab.rise hp
  cases hi : lookG G p.pid with
  | none => have := (h.gone hi).2; rw [this] at h1; cases h1
  | some i =>
    obtain ⟨g, h2, h3, h4, h5, h6⟩ := h.at hi
    rw [h6] at h1
    cases h1
    exact ⟨i, g, rfl, h2, h4, rfl, rfl⟩

/-- The record that is laid down. -/
def onceR (pid seq off : Int) (key : ByteArray) : Rc := ⟨1, off, 0, pid, seq, key, ByteArray.empty⟩
/-- The table is the fold of the records. -/
def FInv (L : List Pr) (rs : List Rc) : Prop := foldE [] rs = 0 ∧ foldL [] rs = L
theorem FInv.start : FInv [] [] := ⟨rfl, rfl⟩
theorem FInv.more {L : List Pr} {rs : List Rc} (h : FInv L rs) {x : Rc} (hx : passE L x = 0) : FInv (passL L x) (rs ++ [x]) := by
  obtain ⟨h1, h2⟩ := h
  refine ⟨?_, ?_⟩
  · rw [foldE_app, if_neg (by simp [h1]), h2]
    simp only [foldE]
    rw [if_neg (by simp [hx])]
  · rw [foldL_app, h2]
    rfl
end Go.Proofs.YtmcfcbonmmifeaaDoor
