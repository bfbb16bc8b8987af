import Derived.Test.YtgffncbmchimdaaQa
import Derived.Defers
/-! manifest: what a file that is replaced may be, whatever moment the power goes at: plain. -/
namespace Go.Proofs.Ytgffncbmchimdaa
open Go.RowKit Go.Maps Plain
set_option linter.unusedVariables false
set_option linter.unusedSimpArgs false

def kCat : Nm := [99, 97, 116, 97, 108, 111, 103]
def kTmp : Nm := [99, 97, 116, 97, 108, 111, 103, 46, 116, 109, 112]
def nmCat : ByteArray := ⟨#[99, 97, 116, 97, 108, 111, 103]⟩
def nmTmp : ByteArray := ⟨#[99, 97, 116, 97, 108, 111, 103, 46, 116, 109, 112]⟩
theorem nmCat_k : nmCat.data.toList = kCat := rfl
theorem nmTmp_k : nmTmp.data.toList = kTmp := rfl
theorem kCat_ne : kCat ≠ kTmp := by decide
theorem nmL_cat : nmL kCat = true := by decide
theorem nmL_tmp : nmL kTmp = true := by decide
theorem szCat : nmCat.size ≤ maxLen := by unfold maxLen; decide
theorem szTmp : nmTmp.size ≤ maxLen := by unfold maxLen; decide

theorem look_ins {x : Nm × Nat} {s : Nm} : ∀ {L : Dir}, (∀ p ∈ L, p.1 ≠ x.1) → look (ins x L) s = if x.1 = s then some x.2 else look L s
  | [], h => by
    unfold ins look
    by_cases e : x.1 = s
    · simp [e]
    · simp [e]
  | y :: r, h => by
    have ih := look_ins (x := x) (s := s) (L := r) (fun p hp => h p (List.mem_cons_of_mem _ hp))
    have hy := h y (List.mem_cons_self ..)
    unfold ins
    split
    · unfold look
      by_cases e : x.1 = s
      · simp [e]
      · simp [e]
    · unfold look at ih ⊢
      by_cases e : y.1 = s
      · have hx : ¬ x.1 = s := fun e2 => hy (e.trans e2.symm)
        simp [e, hx]
      · rw [List.find?_cons_of_neg (by simpa using e), ih]
        split
        · rfl
        · rw [List.find?_cons_of_neg (by simpa using e)]
theorem look_put (L : Dir) (t s : Nm) (g : Nat) : look (put L t g) s = if t = s then some g else look L s := by
  unfold put
  rw [look_ins (fun p hp => by have := (List.mem_filter.mp hp).2; simpa using this)]
  by_cases e : t = s
  · rw [if_pos e, if_pos e]
  · rw [if_neg e, if_neg e, look_del (fun h => e h.symm)]
theorem look_del_self (L : Dir) (s : Nm) : look (del L s) s = none := by
  unfold look del
  rw [Option.map_eq_none_iff, List.find?_eq_none]
  intro p hp
  have := (List.mem_filter.mp hp).2
  simpa using this

/-- The directory behind the first changes since the last sync. -/
def pre (k : Dk) (j : Nat) : Dir := dst k.Ld (k.chg.take j)
theorem pre_all {k : Dk} {n : Nat} (h : k.Dok n) : pre k k.chg.length = k.L := by unfold pre; rw [List.take_length, h.eq]
theorem pre_did {k : Dk} {c : DC} (heq : k.L = dst k.Ld k.chg) (j : Nat) : pre (k.did c) j = pre k j ∨ pre (k.did c) j = DC.on k.L c := by
  unfold pre
  show dst k.Ld ((k.chg ++ [c]).take j) = _ ∨ dst k.Ld ((k.chg ++ [c]).take j) = _
  by_cases hj : j ≤ k.chg.length
  · left; rw [List.take_append_of_le_length hj]
  · right; rw [List.take_of_length_le (by simp; omega), dst_snoc, ← heq]

/-- What stands behind the name: nothing, or a quiet file with such bytes. -/
def Holds0 (k : Dk) (A : Option (List Nat) → Prop) (o : Option Nat) : Prop := o.elim (A none) fun g => k.live g ∧ (k.file g).chg = [] ∧ A (some (k.file g).seen)
/-- A disk with the file and the one beside it, between any two syncs. -/
structure RI (k : Dk) (n B : Nat) (A : Option (List Nat) → Prop) : Prop where
  dok : k.Dok n
  sum : k.Sum
  past : k.Past
  up : Up k.Ld
  quota : k.quota = 1073741824
  nms : ∀ j p, p ∈ pre k j → p.1 = kCat ∨ p.1 = kTmp
  cat : ∀ j, Holds0 k A (look (pre k j) kCat)
  tmp : ∀ j g, look (pre k j) kTmp = some g → k.live g ∧ ∀ ps, (lf ps (k.file g)).1.length ≤ B
  bnd : ∀ x, A (some x) → x.length ≤ B
/-- The file beside it is file G, with these states, and the name never led to it. -/
structure Fr (k : Dk) (G : Nat) (f : Fl) : Prop where
  look : look k.L kTmp = some G
  file : k.file G = f
  ne : ∀ j, Go.Proofs.Ytgffncbmchimdaa.look (pre k j) kCat ≠ some G

theorem Holds0.mono {k : Dk} {A A' : Option (List Nat) → Prop} {o : Option Nat} (h : Holds0 k A o) (hA : ∀ x, A x → A' x) : Holds0 k A' o := by
  cases o with
  | none => exact hA _ h
  | some g => exact ⟨h.1, h.2.1, hA _ h.2.2⟩
theorem RI.wide {k : Dk} {n B : Nat} {A A' : Option (List Nat) → Prop} (h : RI k n B A) (hA : ∀ x, A x → A' x) (hb : ∀ x, A' (some x) → x.length ≤ B) : RI k n B A' :=
  ⟨h.dok, h.sum, h.past, h.up, h.quota, h.nms, fun j => (h.cat j).mono hA, h.tmp, hb⟩
theorem lf_quiet_len {f : Fl} (ps : List Int) (hc : f.chg = []) (he : f.seen = fst f.dur f.chg) : (lf ps f).1 = f.seen := by
  unfold lf lfB
  rw [hc] at he ⊢
  simp only [List.getElem?_nil, List.take_nil]
  exact he.symm
theorem lf_empty (ps : List Int) : (lf ps ⟨[], [], []⟩).1 = [] := lf_quiet_len ps rfl rfl
theorem lf_added (ps : List Int) (b : List Nat) : (lf ps ⟨b, [], [FC.add b]⟩).1.length ≤ b.length := by
  unfold lf lfB
  simp only [List.length_cons, List.length_nil]
  have hu : upV ps 1 ≤ 1 := by
    cases ps with
    | nil => simp [upV]
    | cons p r =>
      have h1 := Int.emod_lt_of_pos p (show (0 : Int) < ((1 : Nat) : Int) + 1 by omega)
      have h2 := Int.emod_nonneg p (show ((1 : Nat) : Int) + 1 ≠ 0 by omega)
      show (p % (((1 : Nat) : Int) + 1)).toNat ≤ 1
      omega
  rcases Nat.lt_or_ge (upV ps 1) 1 with h | h
  · have h0 : upV ps 1 = 0 := by omega
    rw [h0]
    simp only [List.getElem?_cons_zero, Option.elim, List.take_zero, fst, List.foldl_nil, List.nil_append, tornB_add]
    simp
    omega
  · have h0 : upV ps 1 = 1 := by omega
    rw [h0]
    simp [fst, FC.on_add]
theorem lf_synced (ps : List Int) (b : List Nat) : (lf ps ⟨b, b, []⟩).1 = b := lf_quiet_len ps rfl rfl

/-- The names are few. -/
theorem two_names {L : Dir} (hn : (L.map (·.1)).Nodup) (h : ∀ p ∈ L, p.1 = kCat ∨ p.1 = kTmp) : L.length ≤ 2 := by
  match L, hn, h with
  | [], _, _ => simp
  | [a], _, _ => simp
  | [a, b], _, _ => simp
  | a :: b :: c :: r, hn, h =>
    exfalso
    simp only [List.map_cons, List.nodup_cons, List.mem_cons, not_or] at hn
    obtain ⟨⟨h1, h2, _⟩, ⟨h3, _⟩, _⟩ := hn
    rcases h a (by simp) with ha | ha <;> rcases h b (by simp) with hb | hb <;> rcases h c (by simp) with hc | hc
    all_goals simp [ha, hb, hc] at h1 h2 h3
/-- How many bytes: those of the two. -/
theorem two_sum {f : Nat → Nat} {L : Dir} {X Y : Nat} (hn : (L.map (·.1)).Nodup) (h : ∀ p ∈ L, p.1 = kCat ∨ p.1 = kTmp) (hX : ∀ g, look L kCat = some g → f g ≤ X) (hY : ∀ g, look L kTmp = some g → f g ≤ Y) : tT f L ≤ X + Y := by
  have one : ∀ p ∈ L, look L p.1 = some p.2 := fun p hp => look_of_mem hn hp
  match L, hn, h, one with
  | [], _, _, _ => simp [tT]
  | [a], _, h, one =>
    have h1 := one a (by simp)
    rw [tT_cons]
    simp only [tT, List.map_nil, List.sum_nil]
    rcases h a (by simp) with ha | ha
    · rw [ha] at h1; have := hX _ h1; omega
    · rw [ha] at h1; have := hY _ h1; omega
  | [a, b], hn, h, one =>
    have h1 := one a (by simp)
    have h2 := one b (by simp)
    rw [tT_cons, tT_cons]
    simp only [tT, List.map_nil, List.sum_nil]
    simp only [List.map_cons, List.nodup_cons, List.mem_cons, not_or, List.map_nil] at hn
    obtain ⟨⟨h3, _⟩, _⟩ := hn
    rcases h a (by simp) with ha | ha <;> rcases h b (by simp) with hb | hb
    · exact absurd (ha.trans hb.symm) h3
    · rw [ha] at h1; rw [hb] at h2; have := hX _ h1; have := hY _ h2; omega
    · rw [ha] at h1; rw [hb] at h2; have := hX _ h2; have := hY _ h1; omega
    · exact absurd (ha.trans hb.symm) h3
  | a :: b :: c :: r, hn, h, _ =>
    have := two_names hn h
    simp at this
theorem RI.names {k : Dk} {n B : Nat} {A : Option (List Nat) → Prop} (h : RI k n B A) : ∀ p ∈ k.L, p.1 = kCat ∨ p.1 = kTmp := fun p hp => h.nms k.chg.length p (by rw [pre_all h.dok]; exact hp)
theorem RI.catL {k : Dk} {n B : Nat} {A : Option (List Nat) → Prop} (h : RI k n B A) : Holds0 k A (look k.L kCat) := by have := h.cat k.chg.length; rwa [pre_all h.dok] at this
theorem RI.len2 {k : Dk} {n B : Nat} {A : Option (List Nat) → Prop} (h : RI k n B A) : k.L.length ≤ 2 := two_names h.sum.keys h.names
theorem RI.catLen {k : Dk} {n B : Nat} {A : Option (List Nat) → Prop} (h : RI k n B A) : ∀ g, look k.L kCat = some g → k.len g ≤ B := fun g hg => by
  have := h.catL
  rw [hg] at this
  exact h.bnd _ this.2.2

/-- A step that burns the fuse. -/
theorem spent_dead {k : Dk} (hd : k.dead = false) : (k.can = true ∧ k.spent.dead = false) ∨ (k.can = false ∧ k.spent.dead = true ∧ k.fused = true) := by
  unfold Dk.can Dk.spent spd
  simp only
  by_cases h : (k.fused && k.left == 0) = true
  · rw [if_pos h]; exact .inr ⟨rfl, rfl, by simp only [Bool.and_eq_true] at h; exact h.1⟩
  · rw [if_neg h]; exact .inl ⟨rfl, hd⟩
theorem RI.spent {k : Dk} {n B m : Nat} {A : Option (List Nat) → Prop} (h : RI k n B A) (hdok : k.spent.Dok m) : RI k.spent m B A :=
  ⟨hdok, h.sum.spent, ⟨h.past.ld, h.past.made, h.past.few⟩, h.up, h.quota, h.nms, h.cat, h.tmp, h.bnd⟩
end Go.Proofs.Ytgffncbmchimdaa

/-! manifest: the steps of a replacement, plain. -/
namespace Go.Proofs.Ytgffncbmchimdaa
open Go.RowKit Go.Maps Plain
set_option linter.unusedVariables false
set_option linter.unusedSimpArgs false

theorem Holds0.upon {k k0 : Dk} {A A' : Option (List Nat) → Prop} {o : Option Nat} (h : Holds0 k A o) (hf : ∀ g, o = some g → k.live g → k0.file g = k.file g ∧ k0.live g) (hA : ∀ x, A x → A' x) : Holds0 k0 A' o := by
  cases o with
  | none => exact hA _ h
  | some g =>
    obtain ⟨h1, h2, h3⟩ := h
    obtain ⟨e1, e2⟩ := hf g rfl h1
    refine ⟨e2, by rw [e1]; exact h2, by rw [e1]; exact hA _ h3⟩
theorem RI.did {k k0 : Dk} {n m B : Nat} {A A' : Option (List Nat) → Prop} {c : DC} (h : RI k n B A) (e1 : k0.L = k.L) (e2 : k0.Ld = k.Ld) (e3 : k0.chg = k.chg) (e6 : k0.quota = k.quota) (hf : ∀ g, k.live g → k0.file g = k.file g ∧ k0.live g)
    (hdok : (k0.did c).Dok m) (hsum : (k0.did c).Sum) (hpast : (k0.did c).Past) (hA : ∀ x, A x → A' x) (hB : ∀ x, A' (some x) → x.length ≤ B)
    (hn : ∀ p ∈ DC.on k.L c, p.1 = kCat ∨ p.1 = kTmp) (hc : Holds0 k0 A' (look (DC.on k.L c) kCat)) (ht : ∀ g, look (DC.on k.L c) kTmp = some g → k0.live g ∧ ∀ ps, (lf ps (k0.file g)).1.length ≤ B) : RI (k0.did c) m B A' := by
  have hp : ∀ j, pre (k0.did c) j = pre k j ∨ pre (k0.did c) j = DC.on k.L c := fun j => by
    have := pre_did (k := k0) (c := c) (by rw [e1, e2, e3]; exact h.dok.eq) j
    have hpk : pre k0 j = pre k j := by unfold pre; rw [e2, e3]
    rwa [hpk, e1] at this
  refine ⟨hdok, hsum, hpast, by show Up k0.Ld; rw [e2]; exact h.up, e6.trans h.quota, fun j p hj => ?_, fun j => ?_, fun j g hj => ?_, hB⟩
  · rcases hp j with e | e
    · rw [e] at hj; exact h.nms j p hj
    · rw [e] at hj; exact hn p hj
  · show Holds0 k0 A' _
    rcases hp j with e | e
    · rw [e]; exact (h.cat j).upon (fun g _ hg => hf g hg) hA
    · rw [e]; exact hc
  · show k0.live g ∧ ∀ ps, (lf ps (k0.file g)).1.length ≤ B
    rcases hp j with e | e
    · rw [e] at hj
      obtain ⟨h1, h2⟩ := h.tmp j g hj
      obtain ⟨e4, e5⟩ := hf g h1
      exact ⟨e5, by rw [e4]; exact h2⟩
    · rw [e] at hj; exact ht g hj
theorem RI.set {k k0 : Dk} {n m B G : Nat} {A : Option (List Nat) → Prop} (h : RI k n B A) (e1 : k0.L = k.L) (e2 : k0.Ld = k.Ld) (e3 : k0.chg = k.chg) (e5 : k0.live = k.live) (e6 : k0.quota = k.quota) (hf : ∀ g, g ≠ G → k0.file g = k.file g)
    (hdok : k0.Dok m) (hsum : k0.Sum) (hpast : k0.Past) (hne : ∀ j, look (pre k j) kCat ≠ some G) (hG : ∀ ps, (lf ps (k0.file G)).1.length ≤ B) : RI k0 m B A := by
  have hp : ∀ j, pre k0 j = pre k j := fun j => by unfold pre; rw [e2, e3]
  refine ⟨hdok, hsum, hpast, by rw [e2]; exact h.up, e6.trans h.quota, fun j p hj => h.nms j p (by rw [← hp]; exact hj), fun j => ?_, fun j g hj => ?_, h.bnd⟩
  · rw [hp]
    exact (h.cat j).upon (fun g e hg => ⟨hf g (fun e2 => hne j (by rw [e, e2])), by rw [e5]; exact hg⟩) (fun _ h => h)
  · rw [hp] at hj
    obtain ⟨h1, h2⟩ := h.tmp j g hj
    refine ⟨by rw [e5]; exact h1, fun ps => ?_⟩
    by_cases e : g = G
    · rw [e]; exact hG ps
    · rw [hf g e]; exact h2 ps
theorem RI.settle {k k0 : Dk} {n m B : Nat} {A A' : Option (List Nat) → Prop} (h : RI k n B A) (e1 : k0.L = k.L) (e2 : k0.Ld = k.L) (e3 : k0.chg = []) (e4 : k0.file = k.file) (e5 : k0.live = k.live) (e6 : k0.quota = k.quota)
    (hdok : k0.Dok m) (hsum : k0.Sum) (hpast : k0.Past) (hc : Holds0 k A' (look k.L kCat)) (hB : ∀ x, A' (some x) → x.length ≤ B) : RI k0 m B A' := by
  have hp : ∀ j, pre k0 j = k.L := fun j => by unfold pre; rw [e2, e3]; simp [dst]
  refine ⟨hdok, hsum, hpast, by rw [e2, h.dok.eq]; exact up_dst _ h.up, e6.trans h.quota, fun j p hj => h.names p (by rw [← hp j]; exact hj), fun j => ?_, fun j g hj => ?_, hB⟩
  · rw [hp]; exact hc.upon (fun g _ hg => ⟨by rw [e4], by rw [e5]; exact hg⟩) (fun _ h => h)
  · rw [hp] at hj
    have := h.tmp k.chg.length g (by rw [pre_all h.dok]; exact hj)
    rw [e4, e5]; exact this

theorem fnd_tmp {k : Dk} {g : Nat} (hd : k.dead = false) (hl : look k.L kTmp = some g) : (fnd k.dead k.L nmTmp).2 = 0 := by
  unfold fnd
  rw [hd, nmTmp_k, nmL_tmp, hl]; rfl
theorem fnd_tmp0 {k : Dk} (hd : k.dead = false) (hl : look k.L kTmp = none) : (fnd k.dead k.L nmTmp).2 = 31 := by
  unfold fnd
  rw [hd, nmTmp_k, nmL_tmp, hl]; rfl
theorem fnd_dead {k : Dk} (hd : k.dead = true) : (fnd k.dead k.L nmTmp).2 = 34 := by
  unfold fnd
  rw [hd]; rfl
theorem rem_dead {k : Dk} (hd : k.dead = true) : removeK k nmTmp = (34, k) := by
  unfold removeK
  rw [fnd_dead hd]; rfl
abbrev Bad (r : Int × Dk) (n B : Nat) (A : Option (List Nat) → Prop) (fu : Bool) : Prop := r.1 = 34 ∧ RI r.2 n B A ∧ r.2.dead = true ∧ fu = true

theorem rem_step {k : Dk} {n B g : Nat} {A : Option (List Nat) → Prop} (h : RI k n B A) (hd : k.dead = false) (hn : n ≤ 4398046511102) (hl : look k.L kTmp = some g) :
    ((removeK k nmTmp).1 = 0 ∧ RI (removeK k nmTmp).2 (n + 1) B A ∧ (removeK k nmTmp).2.dead = false ∧ (removeK k nmTmp).2.fused = k.fused ∧ look (removeK k nmTmp).2.L kTmp = none) ∨ Bad (removeK k nmTmp) (n + 1) B A k.fused := by
  have hdok := remove_dok (s := nmTmp) h.dok szTmp hn
  have hsum := remove_sum (s := nmTmp) h.sum
  have hpast : (removeK k nmTmp).2.Past := h.past.chK (kd := 7) (nm := nmTmp) (to := nmTmp) (m := 0) (l := []) (G := 0) h.dok
  unfold Bad
  have e : removeK k nmTmp = if k.can then (0, (k.spent.uses (k.used - sizeK k nmTmp)).did (DC.rm kTmp)) else (34, k.spent) := by
    unfold removeK
    rw [if_pos (fnd_tmp hd hl), nmTmp_k]
  rcases spent_dead hd with ⟨hc, hs⟩ | ⟨hc, hs, hfu⟩
  · rw [hc, if_pos rfl] at e
    rw [e] at hdok hsum hpast ⊢
    left
    refine ⟨rfl, RI.did h rfl rfl rfl rfl (fun g hg => ⟨rfl, hg⟩) hdok hsum hpast (fun _ h => h) h.bnd (fun p hp => h.names p (mem_del hp)) ?_ ?_, hs, rfl, look_del_self _ _⟩
    · rw [DC.on_rm, look_del kCat_ne]
      exact h.catL.upon (fun g _ hg => ⟨rfl, hg⟩) (fun _ h => h)
    · intro g hg
      rw [DC.on_rm, look_del_self] at hg
      cases hg
  · rw [hc] at e
    simp only [Bool.false_eq_true, if_false] at e
    rw [e] at hdok ⊢
    right
    exact ⟨rfl, h.spent hdok, hs, hfu⟩
theorem create_step {k : Dk} {n B G : Nat} {A : Option (List Nat) → Prop} (h : RI k n B A) (hd : k.dead = false) (hn : n ≤ 4398046511102) (hl : look k.L kTmp = none) (hG : ¬ k.live G) :
    ((createK k nmTmp G).1 = 0 ∧ RI (createK k nmTmp G).2 (n + 1) B A ∧ (createK k nmTmp G).2.dead = false ∧ (createK k nmTmp G).2.fused = k.fused ∧ Fr (createK k nmTmp G).2 G ⟨[], [], []⟩) ∨ Bad (createK k nmTmp G) (n + 1) B A k.fused := by
  have hdok := create_dok (G := G) (s := nmTmp) h.dok szTmp hn
  have hsum := create_sum (G := G) (s := nmTmp) h.sum h.dok.ok.refs hG
  have hpast : (createK k nmTmp G).2.Past := h.past.chK (kd := 1) (nm := nmTmp) (to := nmTmp) (m := 0) (l := []) (G := G) h.dok
  unfold Bad
  have hl2 := h.len2
  have e : createK k nmTmp G = if k.can then (0, (k.spent.addFile G).did (DC.mk kTmp G)) else (34, k.spent) := by
    unfold createK
    have hr : rdy k.dead [nmTmp] = 0 := by
      unfold rdy nmsB
      rw [hd]
      simp only [Bool.false_eq_true, if_false, List.all_cons, List.all_nil, nmTmp_k, nmL_tmp]
      rfl
    rw [hr, nmTmp_k, hl, if_neg (by simp), if_neg (by simp), if_neg (by omega)]
  rcases spent_dead hd with ⟨hc, hs⟩ | ⟨hc, hs, hfu⟩
  · rw [hc, if_pos rfl] at e
    rw [e] at hdok hsum hpast ⊢
    left
    have hup : ∀ g, k.live g → (k.spent.addFile G).file g = k.file g ∧ (k.spent.addFile G).live g := fun g hg => ⟨upd_other _ _ _ _ (fun e => hG (e ▸ hg)), .inl hg⟩
    have hlc : look (DC.on k.L (DC.mk kTmp G)) kCat = look k.L kCat := by rw [DC.on_mk, look_put, if_neg (fun e => kCat_ne e.symm)]
    refine ⟨rfl, RI.did h rfl rfl rfl rfl hup hdok hsum hpast (fun _ h => h) h.bnd (fun p hp => ?_) ?_ ?_, hs, rfl, ⟨?_, ?_, fun j hj => ?_⟩⟩
    · rcases mem_put hp with rfl | hp
      · exact .inr rfl
      · exact h.names p hp
    · rw [hlc]; exact h.catL.upon (fun g _ hg => hup g hg) (fun _ h => h)
    · intro g hg
      rw [DC.on_mk, look_put, if_pos rfl] at hg
      cases hg
      refine ⟨.inr rfl, fun ps => ?_⟩
      show (lf ps (upd k.file G ⟨[], [], []⟩ G)).1.length ≤ B
      rw [upd_same, lf_empty]; simp
    · show look (DC.on k.L (DC.mk kTmp G)) kTmp = some G
      rw [DC.on_mk, look_put, if_pos rfl]
    · exact upd_same _ _ _
    · have hp := pre_did (k := k.spent.addFile G) (c := DC.mk kTmp G) h.dok.eq j
      have hcj := h.cat j
      have hcl := h.catL
      rcases hp with e2 | e2
      · rw [e2] at hj
        have hj' : look (pre k j) kCat = some G := hj
        rw [hj'] at hcj
        exact hG hcj.1
      · rw [e2] at hj
        have hj' : look (DC.on k.L (DC.mk kTmp G)) kCat = some G := hj
        rw [hlc] at hj'
        rw [hj'] at hcl
        exact hG hcl.1
  · rw [hc] at e
    simp only [Bool.false_eq_true, if_false] at e
    rw [e] at hdok ⊢
    right
    exact ⟨rfl, h.spent hdok, hs, hfu⟩
theorem append_step {k : Dk} {n B G : Nat} {A : Option (List Nat) → Prop} {b : List Nat} (h : RI k n B A) (hd : k.dead = false) (hn : n ≤ 4398046511102) (hF : Fr k G ⟨[], [], []⟩) (hb : b.length ≤ B) (hB : B ≤ 268435456) :
    ((appendK k nmTmp b).1 = 0 ∧ RI (appendK k nmTmp b).2 (n + 1) B A ∧ (appendK k nmTmp b).2.dead = false ∧ (appendK k nmTmp b).2.fused = k.fused ∧ Fr (appendK k nmTmp b).2 G ⟨b, [], [FC.add b]⟩) ∨ Bad (appendK k nmTmp b) (n + 1) B A k.fused := by
  have hdok := append_dok (s := nmTmp) (b := b) h.dok h.sum.uok hn
  have hsum := append_sum (s := nmTmp) (b := b) h.sum
  have hpast : (appendK k nmTmp b).2.Past := h.past.chK (kd := 2) (nm := nmTmp) (to := nmTmp) (m := 0) (l := b) (G := 0) h.dok
  unfold Bad
  have hused : k.used ≤ B := by
    rw [h.sum.used]
    have := two_sum (f := k.len) (X := B) (Y := 0) h.sum.keys h.names h.catLen (fun g hg => by
      rw [hF.look] at hg
      cases hg
      unfold Dk.len
      rw [hF.file]; simp)
    omega
  have e : appendK k nmTmp b = if k.can then (0, (k.spent.setFile G ((k.file G).add b)).uses (k.used + b.length)) else (34, k.spent) := by
    unfold appendK
    rw [if_pos (fnd_tmp hd hF.look), if_neg (by rw [h.quota]; omega), nmTmp_k, hF.look]
  rcases spent_dead hd with ⟨hc, hs⟩ | ⟨hc, hs, hfu⟩
  · rw [hc, if_pos rfl] at e
    rw [e] at hdok hsum hpast ⊢
    left
    have hfG : ((k.spent.setFile G ((k.file G).add b)).uses (k.used + b.length)).file G = ⟨b, [], [FC.add b]⟩ := by
      show upd k.file G ((k.file G).add b) G = _
      rw [upd_same, hF.file]
      rfl
    refine ⟨rfl, RI.set (G := G) h rfl rfl rfl rfl rfl (fun g hg => upd_other _ _ _ _ hg) hdok hsum hpast hF.ne (fun ps => ?_), hs, rfl, ⟨hF.look, hfG, hF.ne⟩⟩
    rw [hfG]
    exact Nat.le_trans (lf_added ps b) hb
  · rw [hc] at e
    simp only [Bool.false_eq_true, if_false] at e
    rw [e] at hdok ⊢
    right
    exact ⟨rfl, h.spent hdok, hs, hfu⟩
theorem sync_step {k : Dk} {n B G : Nat} {A : Option (List Nat) → Prop} {b : List Nat} (h : RI k n B A) (hd : k.dead = false) (hF : Fr k G ⟨b, [], [FC.add b]⟩) (hb : b.length ≤ B) :
    ((syncK k nmTmp).1 = 0 ∧ RI (syncK k nmTmp).2 (n + 1) B A ∧ (syncK k nmTmp).2.dead = false ∧ (syncK k nmTmp).2.fused = k.fused ∧ Fr (syncK k nmTmp).2 G ⟨b, b, []⟩) ∨ Bad (syncK k nmTmp) (n + 1) B A k.fused := by
  have hdok := sync_dok (s := nmTmp) h.dok
  have hsum := sync_sum (s := nmTmp) h.sum
  have hpast : (syncK k nmTmp).2.Past := h.past.chK (kd := 4) (nm := nmTmp) (to := nmTmp) (m := 0) (l := []) (G := 0) h.dok
  unfold Bad
  have e : syncK k nmTmp = if k.can then (0, k.spent.setFile G ⟨(k.file G).seen, (k.file G).seen, []⟩) else (34, k.spent) := by
    unfold syncK
    rw [if_pos (fnd_tmp hd hF.look), nmTmp_k, hF.look]
  rcases spent_dead hd with ⟨hc, hs⟩ | ⟨hc, hs, hfu⟩
  · rw [hc, if_pos rfl] at e
    rw [e] at hdok hsum hpast ⊢
    left
    have hfG : (k.spent.setFile G ⟨(k.file G).seen, (k.file G).seen, []⟩).file G = ⟨b, b, []⟩ := by
      show upd k.file G ⟨(k.file G).seen, (k.file G).seen, []⟩ G = _
      rw [upd_same, hF.file]
    refine ⟨rfl, RI.set (G := G) h rfl rfl rfl rfl rfl (fun g hg => upd_other _ _ _ _ hg) hdok hsum hpast hF.ne (fun ps => ?_), hs, rfl, ⟨hF.look, hfG, hF.ne⟩⟩
    rw [hfG, lf_synced]
    exact hb
  · rw [hc] at e
    simp only [Bool.false_eq_true, if_false] at e
    rw [e] at hdok ⊢
    right
    exact ⟨rfl, h.spent hdok, hs, hfu⟩
/-- What may stand there behind the rename. -/
def orNew (A : Option (List Nat) → Prop) (b : List Nat) : Option (List Nat) → Prop := fun x => A x ∨ x = some b
theorem rename_step {k : Dk} {n B G : Nat} {A : Option (List Nat) → Prop} {b : List Nat} (h : RI k n B A) (hd : k.dead = false) (hn : n ≤ 4398046511102) (hF : Fr k G ⟨b, b, []⟩) (hb : b.length ≤ B) :
    ((renameK k nmTmp nmCat).1 = 0 ∧ RI (renameK k nmTmp nmCat).2 (n + 1) B (orNew A b) ∧ (renameK k nmTmp nmCat).2.dead = false ∧ (renameK k nmTmp nmCat).2.fused = k.fused ∧ look (renameK k nmTmp nmCat).2.L kCat = some G ∧ (renameK k nmTmp nmCat).2.file G = ⟨b, b, []⟩ ∧ (renameK k nmTmp nmCat).2.live G) ∨ Bad (renameK k nmTmp nmCat) (n + 1) B A k.fused := by
  have hdok := rename_dok (s := nmTmp) (t := nmCat) h.dok szTmp szCat hn
  have hsum := rename_sum (s := nmTmp) (t := nmCat) h.sum
  have hpast : (renameK k nmTmp nmCat).2.Past := h.past.chK (kd := 6) (nm := nmTmp) (to := nmCat) (m := 0) (l := []) (G := 0) h.dok
  unfold Bad
  have hlive : k.live G := h.dok.ok.refs (kTmp, G) (look_mem hF.look)
  have e : renameK k nmTmp nmCat = if k.can then (0, (k.spent.uses (k.used - sizeK k nmCat)).did (DC.mv kTmp kCat)) else (34, k.spent) := by
    unfold renameK
    have hr : rdy k.dead [nmTmp, nmCat] = 0 := by
      unfold rdy nmsB
      rw [hd]
      simp only [Bool.false_eq_true, if_false, List.all_cons, List.all_nil, nmTmp_k, nmCat_k, nmL_tmp, nmL_cat]
      rfl
    rw [hr, if_neg (by simp), if_neg (by decide), if_pos (fnd_tmp hd hF.look), nmTmp_k, nmCat_k]
  have hon : DC.on k.L (DC.mv kTmp kCat) = del (put k.L kCat G) kTmp := by rw [DC.on_mv, hF.look]; rfl
  have hlc : look (DC.on k.L (DC.mv kTmp kCat)) kCat = some G := by rw [hon, look_del kCat_ne, look_put, if_pos rfl]
  rcases spent_dead hd with ⟨hc, hs⟩ | ⟨hc, hs, hfu⟩
  · rw [hc, if_pos rfl] at e
    rw [e] at hdok hsum hpast ⊢
    left
    refine ⟨rfl, RI.did h rfl rfl rfl rfl (fun g hg => ⟨rfl, hg⟩) hdok hsum hpast (fun _ h => .inl h) (fun x hx => ?_) (fun p hp => ?_) ?_ ?_, hs, rfl, hlc, hF.file, hlive⟩
    · rcases hx with hx | hx
      · exact h.bnd x hx
      · cases hx; exact hb
    · rw [hon] at hp
      rcases mem_put (mem_del hp) with rfl | hp
      · exact .inl rfl
      · exact h.names p hp
    · rw [hlc]
      exact ⟨hlive, by show (k.file G).chg = []; rw [hF.file], .inr (by show some (k.file G).seen = _; rw [hF.file])⟩
    · intro g hg
      rw [hon, look_del_self] at hg
      cases hg
  · rw [hc] at e
    simp only [Bool.false_eq_true, if_false] at e
    rw [e] at hdok ⊢
    right
    exact ⟨rfl, h.spent hdok, hs, hfu⟩
theorem dir_step {k : Dk} {n B G : Nat} {A : Option (List Nat) → Prop} {b : List Nat} (h : RI k n B A) (hd : k.dead = false) (hl : look k.L kCat = some G) (hf : k.file G = ⟨b, b, []⟩) (hlive : k.live G) (hb : b.length ≤ B) :
    ((syncDirK k).1 = 0 ∧ RI (syncDirK k).2 (n + 1) B (fun x => x = some b)) ∨ Bad (syncDirK k) (n + 1) B A k.fused := by
  have hdok := syncDir_dok h.dok
  have hsum := syncDir_sum h.sum
  have hpast : (syncDirK k).2.Past := h.past.chK (kd := 5) (nm := nmTmp) (to := nmTmp) (m := 0) (l := []) (G := 0) h.dok
  unfold Bad
  have e : syncDirK k = if k.can then (0, k.spent.settled) else (34, k.spent) := by
    unfold syncDirK
    rw [hd]; rfl
  rcases spent_dead hd with ⟨hc, hs⟩ | ⟨hc, hs, hfu⟩
  · rw [hc, if_pos rfl] at e
    rw [e] at hdok hsum hpast ⊢
    left
    refine ⟨rfl, RI.settle h rfl rfl rfl rfl rfl rfl hdok hsum hpast ?_ (fun x hx => by cases hx; exact hb)⟩
    rw [hl]
    exact ⟨hlive, by rw [hf], by rw [hf]⟩
  · rw [hc] at e
    simp only [Bool.false_eq_true, if_false] at e
    rw [e] at hdok ⊢
    right
    exact ⟨rfl, h.spent hdok, hs, hfu⟩
end Go.Proofs.Ytgffncbmchimdaa

/-! manifest: what a crash leaves of the file and of the one beside it, and what is loaded of that: plain. -/
namespace Go.Proofs.Ytgffncbmchimdaa
open Go.RowKit Go.Maps Go.Sort Plain
set_option linter.unusedVariables false
set_option linter.unusedSimpArgs false

def imgLook (im : List (Nm × List Nat)) (s : Nm) : Option (List Nat) := (im.find? fun p => p.1 == s).map (·.2)
theorem imgL_each {σ : Type} (L : Dir) (B : σ → Nat → List Nat) (nx : σ → Nat → σ) : ∀ (ks : List Nm) (s : σ) (p : Nm × List Nat), p ∈ imgL L B nx s ks → p.1 ∈ ks ∧ ∃ t, p.2 = B t (fileOf L p.1)
  | [], s, p, hp => by simp [imgL] at hp
  | x :: ks, s, p, hp => by
    rw [imgL] at hp
    rcases List.mem_cons.mp hp with rfl | hp
    · exact ⟨List.mem_cons_self .., s, rfl⟩
    · obtain ⟨h1, t, h2⟩ := imgL_each L B nx ks _ p hp
      exact ⟨List.mem_cons_of_mem _ h1, t, h2⟩
theorem up_nodup {L : Dir} (h : Up L) : (L.map (·.1)).Nodup := by
  rw [List.nodup_iff_pairwise_ne, List.pairwise_map]
  exact h.imp (fun h e => by rw [e, WideAt.bytes_irrefl] at h; cases h)
theorem RI.upD {k : Dk} {n B : Nat} {A : Option (List Nat) → Prop} (h : RI k n B A) (j : Nat) : ((pre k j).map (·.1)).Nodup := up_nodup (up_dst _ h.up)
theorem crL_pre (k : Dk) (ps : List Int) : crL k ps = pre k (upV ps k.chg.length) := rfl
theorem crK_names (k : Dk) (ps : List Int) : (crK k ps).map (·.1) = nms (crL k ps) := imgL_names _ _ _ _ _
theorem crash_each {k : Dk} {n B : Nat} {A : Option (List Nat) → Prop} (h : RI k n B A) (ps : List Int) (p : Nm × List Nat) (hp : p ∈ crK k ps) : (p.1 = kCat ∧ A (some p.2) ∧ p.2.length ≤ B) ∨ (p.1 = kTmp ∧ p.2.length ≤ B) := by
  obtain ⟨h1, t, h2⟩ := imgL_each _ _ _ _ _ p hp
  have hm := fileOf_mem h1
  have hg : look (crL k ps) p.1 = some (fileOf (crL k ps) p.1) := look_of_mem (h.upD _) hm
  rcases h.nms _ _ hm with e | e
  · left
    have hc := h.cat (upV ps k.chg.length)
    rw [← crL_pre] at hc
    have e' : p.1 = kCat := e
    rw [e'] at hg h2
    rw [hg] at hc
    obtain ⟨c1, c2, c3⟩ := hc
    have hq : p.2 = (k.file (fileOf (crL k ps) kCat)).seen := by rw [h2]; exact lf_quiet_len t c2 (h.dok.ok.fok _ c1).1.eq
    rw [hq]
    exact ⟨e', c3, h.bnd _ c3⟩
  · right
    have e' : p.1 = kTmp := e
    rw [e'] at hg h2
    refine ⟨e', ?_⟩
    rw [h2]
    exact (h.tmp _ _ hg).2 t
theorem imgLook_mem {im : List (Nm × List Nat)} {s : Nm} {x : List Nat} (h : imgLook im s = some x) : (s, x) ∈ im := by
  unfold imgLook at h
  cases e : im.find? (fun p => p.1 == s) with
  | none => rw [e] at h; simp at h
  | some p =>
    rw [e] at h
    have h1 := List.find?_some e
    have h2 := List.mem_of_find?_eq_some e
    simp at h h1
    rw [← h1, ← h]
    exact h2
theorem imgLook_none {im : List (Nm × List Nat)} {s : Nm} (h : imgLook im s = none) : ∀ p ∈ im, p.1 ≠ s := by
  unfold imgLook at h
  rw [Option.map_eq_none_iff, List.find?_eq_none] at h
  intro p hp e
  exact h p hp (by simpa using e)
theorem crash_cat {k : Dk} {n B : Nat} {A : Option (List Nat) → Prop} (h : RI k n B A) (ps : List Int) : A (imgLook (crK k ps) kCat) := by
  cases e : imgLook (crK k ps) kCat with
  | some x =>
    rcases crash_each h ps _ (imgLook_mem e) with ⟨_, h1, _⟩ | ⟨h1, _⟩
    · exact h1
    · exact absurd h1 kCat_ne
  | none =>
    have hn := imgLook_none e
    have hc := h.cat (upV ps k.chg.length)
    rw [← crL_pre] at hc
    cases hl : look (crL k ps) kCat with
    | none => rw [hl] at hc; exact hc
    | some g =>
      have hm : kCat ∈ nms (crL k ps) := nms_mem.2 (List.mem_map.mpr ⟨_, look_mem hl, rfl⟩)
      rw [← crK_names] at hm
      obtain ⟨p, hp, e2⟩ := List.mem_map.mp hm
      exact absurd e2 (hn p hp)
theorem two_im {im : List (Nm × List Nat)} {B : Nat} (hn : (im.map (·.1)).Nodup) (h : ∀ p ∈ im, (p.1 = kCat ∨ p.1 = kTmp) ∧ p.2.length ≤ B) : im.length ≤ 2 ∧ (im.map fun p => p.2.length).sum ≤ 2 * B := by
  match im, hn, h with
  | [], _, _ => simp
  | [a], _, h => have := (h a (by simp)).2; simp; omega
  | [a, b], _, h => have := (h a (by simp)).2; have := (h b (by simp)).2; simp; omega
  | a :: b :: c :: r, hn, h =>
    exfalso
    simp only [List.map_cons, List.nodup_cons, List.mem_cons, not_or] at hn
    obtain ⟨⟨h1, h2, _⟩, ⟨h3, _⟩, _⟩ := hn
    rcases (h a (by simp)).1 with ha | ha <;> rcases (h b (by simp)).1 with hb | hb <;> rcases (h c (by simp)).1 with hc | hc
    all_goals simp [ha, hb, hc] at h1 h2 h3
theorem crash_im {k : Dk} {n B : Nat} {A : Option (List Nat) → Prop} (h : RI k n B A) (hB : B ≤ 268435456) (ps : List Int) : ImOk (crK k ps) := by
  have hnd : (nms (crL k ps)).Nodup := (srt_perm _).nodup_iff.mpr (h.upD _)
  have hap : ((crK k ps).map (·.1)).Nodup := by rw [crK_names]; exact hnd
  have hea : ∀ p ∈ crK k ps, (p.1 = kCat ∨ p.1 = kTmp) ∧ p.2.length ≤ B := fun p hp => by
    rcases crash_each h ps p hp with ⟨h1, _, h2⟩ | ⟨h1, h2⟩
    · exact ⟨.inl h1, h2⟩
    · exact ⟨.inr h1, h2⟩
  obtain ⟨t1, t2⟩ := two_im hap hea
  refine ⟨by omega, fun p hp => ?_, fun p hp => ?_, fun i p q hp hq => ?_, hap, by omega⟩
  · rcases (hea p hp).1 with e | e <;> rw [e]
    · exact nmL_cat
    · exact nmL_tmp
  · rcases (hea p hp).1 with e | e <;> rw [e]
    · exact szCat
    · exact szTmp
  · have hpw := srt_pw ((crL k ps).map (·.1))
    have e1 : (nms (crL k ps))[i]? = some p.1 := by rw [← crK_names, List.getElem?_map, hp]; rfl
    have e2 : (nms (crL k ps))[i + 1]? = some q.1 := by rw [← crK_names, List.getElem?_map, hq]; rfl
    obtain ⟨l1, f1⟩ := List.getElem?_eq_some_iff.mp e1
    obtain ⟨l2, f2⟩ := List.getElem?_eq_some_iff.mp e2
    have h1 : p.1 ≤ q.1 := by
      rw [← f1, ← f2]
      exact List.pairwise_iff_getElem.mp hpw i (i + 1) l1 l2 (by omega)
    have h2 : p.1 ≠ q.1 := by
      rw [← f1, ← f2]
      exact List.pairwise_iff_getElem.mp hnd i (i + 1) l1 l2 (by omega)
    exact leB_false h1 h2
theorem im_uniq {s : Nm} {l x : List Nat} : ∀ {im : List (Nm × List Nat)}, (im.map (·.1)).Nodup → (s, l) ∈ im → (s, x) ∈ im → l = x
  | [], h, h1, h2 => by simp at h1
  | a :: r, h, h1, h2 => by
    rw [List.map_cons, List.nodup_cons] at h
    rcases List.mem_cons.mp h1 with e1 | e1
    · rcases List.mem_cons.mp h2 with e2 | e2
      · rw [← e1] at e2; injection e2 with _ e3; exact e3.symm
      · exact absurd (by rw [← e1]; exact List.mem_map.mpr ⟨_, e2, rfl⟩) h.1
    · rcases List.mem_cons.mp h2 with e2 | e2
      · exact absurd (by rw [← e2]; exact List.mem_map.mpr ⟨_, e1, rfl⟩) h.1
      · exact im_uniq h.2 e1 e2
/-- What is loaded of a right image of the two. -/
theorem load_ri {im : List (Nm × List Nat)} {xs : List ((Nm × List Nat) × Nat)} {k : Dk} {B : Nat} (h : LdI 1073741824 xs k) (hx : xs.map (·.1) = im) (him : ImOk im) (hea : ∀ p ∈ im, (p.1 = kCat ∨ p.1 = kTmp) ∧ p.2.length ≤ B) :
    RI k.settled 2 B (fun x => x = imgLook im kCat) ∧ k.settled.dead = false := by
  obtain ⟨hg, hp, hn, hs⟩ := h.done
  have hl2 : xs.length ≤ 2 := by rw [← List.length_map (f := (·.1)), hx]; exact (two_im him.apart hea).1
  have hup : Up k.L := by rw [h.dok.eq, h.Ld]; exact up_dst _ List.Pairwise.nil
  have hnd := up_nodup hup
  have hkey : ∀ p ∈ k.L, ∃ x ∈ xs, p = (x.1.1, x.2) ∧ x.1 ∈ im := fun p hp => by
    obtain ⟨x, h1, h2⟩ := List.mem_map.mp (h.perm.mem_iff.mp hp)
    exact ⟨x, h1, h2.symm, by rw [← hx]; exact List.mem_map_of_mem h1⟩
  have hpre : ∀ j, pre k.settled j = k.L := fun j => by unfold pre; simp [Dk.settled, dst]
  have hfile : ∀ s g, look k.L s = some g → k.live g ∧ ∃ l, k.file g = ⟨l, l, []⟩ ∧ (s, l) ∈ im := fun s g hl => by
    obtain ⟨x, h1, h2, h3⟩ := hkey _ (look_mem hl)
    injection h2 with h4 h5
    obtain ⟨f1, f2⟩ := h.file x h1
    refine ⟨h5 ▸ f1, x.1.2, by rw [h5]; exact f2, ?_⟩
    rw [h4]
    exact h3
  refine ⟨⟨hg.dok.more hl2, hg.sum, hp, hup, h.quota, fun j p hj => ?_, fun j => ?_, fun j g hj => ?_, fun x hx2 => ?_⟩, h.on.dead⟩
  · rw [hpre] at hj
    obtain ⟨x, h1, h2, h3⟩ := hkey p hj
    rw [h2]
    exact (hea _ h3).1
  · rw [hpre]
    cases hl : look k.L kCat with
    | none =>
      show none = imgLook im kCat
      cases e : imgLook im kCat with
      | none => rfl
      | some x =>
        have hm := imgLook_mem e
        rw [← hx] at hm
        obtain ⟨y, h1, h2⟩ := List.mem_map.mp hm
        have h3 := h.perm.mem_iff.mpr (List.mem_map.mpr ⟨y, h1, rfl⟩)
        have h4 := look_of_mem hnd h3
        rw [h2] at h4
        simp only at h4
        rw [hl] at h4
        cases h4
    | some g =>
      obtain ⟨f1, l, f2, f3⟩ := hfile _ _ hl
      refine ⟨f1, by show (k.file g).chg = []; rw [f2], ?_⟩
      show some (k.file g).seen = imgLook im kCat
      rw [f2]
      cases e : imgLook im kCat with
      | none => exact absurd rfl (imgLook_none e _ f3)
      | some x =>
        have hm := imgLook_mem e
        have h6 := him.apart
        have : l = x := im_uniq h6 f3 hm
        rw [this]
  · rw [hpre] at hj
    obtain ⟨f1, l, f2, f3⟩ := hfile _ _ hj
    refine ⟨f1, fun ps => ?_⟩
    show (lf ps (k.file g)).1.length ≤ B
    rw [f2, lf_synced]
    exact (hea _ f3).2
  · exact (hea _ (imgLook_mem hx2.symm)).2
end Go.Proofs.Ytgffncbmchimdaa

/-! manifest: install, and what it defers. -/
namespace Go.Proofs.Ytgffncbmchimdaa
open Go.RowKit Go.Maps Plain
set_option linter.unusedVariables false
set_option linter.unusedSimpArgs false

/-- A cell of a block that the disk has nothing to do with is written. -/
theorem DskP.poke {P : Nat → Prop} {W w : World} {d b o : Nat} {k : Dk} (v : Value) (h : DskP P W d k w) (hb : P b) : DskP P (w.setCell ⟨b, o, none⟩ v) d k (w.setCell ⟨b, o, none⟩ v) := by
  obtain ⟨h1, S, h2, h3⟩ := h
  have hg : w.grownBy (w.setCell ⟨b, o, none⟩ v) (some b) := grow_setCells w b o [v]
  refine ⟨Keep.refl (fun x hx => ?_), S, h2.frame hg.size (fun x hx => hg.block x (h2.rng x hx) (fun e => by cases e; exact h3 _ hx hb)), h3⟩
  have := h1.lt x hx
  have := h1.size
  have := hg.size
  omega
set_option maxHeartbeats 2000000 in
theorem install1Of {P : Nat → Prop} {W' w : World} {d n eb db bb : Nat} {k : Dk} (c : Int) (u : FrameMode) (h : DskP P W' d k w) (hk : k.Dok n) (hu : k.Uok) (hn : n ≤ 4398046511103) (he : w.cell? ⟨eb, 0, none⟩ = some (.int .i64 c)) (hd : w.cell? ⟨db, 0, none⟩ = some (.pointer (some ⟨d, 0, none⟩))) (hb : w.cell? ⟨bb, 0, none⟩ = some (.string nmTmp)) (hc : c = 0 ∨ (¬ c = 0 ∧ k.dead = true)) :
    CallsD Try.prog 59 #[.pointer (some ⟨eb, 0, none⟩), .pointer (some ⟨db, 0, none⟩), .pointer (some ⟨bb, 0, none⟩)] u w fun e u' w' => u' = u ∧ (e = .returned (.tuple #[]) ∧ DskP P W' d k w') := by
  have HD : Hid (DskP P W' d k w) := h
  have HR : Hid (k.dead = true → Calls Try.prog 28 #[.pointer (some ⟨d, 0, none⟩), .string nmTmp] w fun e w2 => e = .returned (.int .i64 34) ∧ DskP P W' d k w2) := fun hdd => by
    have := removeP (s := nmTmp) h szTmp hk hu hn
    rw [rem_dead hdd] at this
    exact this
  clear h hk hu
  generalize nmTmp = nm at *
  rcases hc with rfl | ⟨hc0, hdd⟩
  · go_enter_d Try.func59, Try.ntmps59
    go_wp2
    go_end0
    exact ⟨rfl, HD.out⟩
  · have hb0 : (c == 0) = false := by simpa using hc0
    go_enter_d Try.func59, Try.ntmps59
    go_wp2_with fail
    refine (HR.out hdd).mono ?_
    rintro e w2 ⟨rfl, h2⟩
    have H2 : Hid (DskP P W' d k w2) := h2
    clear h2
    go_wp2
    go_end0
    exact ⟨rfl, H2.out⟩
end Go.Proofs.Ytgffncbmchimdaa

/-! manifest: install. -/
namespace Go.Proofs.Ytgffncbmchimdaa
open Go.RowKit Go.Maps Plain
set_option linter.unusedVariables false
set_option linter.unusedSimpArgs false

theorem appendP {P : Nat → Prop} {W w1 : World} {d n : Nat} {k : Dk} {s : ByteArray} {v : Value} {b : List Nat} (h : DskP P W d k w1) (hs : s.size ≤ maxLen) (hb : ∀ u, Keep P W u → BytesAt u v b) (hk : k.Dok n) (hu : k.Uok) (hn : n ≤ 4398046511103) : Calls Try.prog 22 #[.pointer (some ⟨d, 0, none⟩), .string s, v] w1 (PPost P W d (appendK k s b)) := by
  obtain ⟨h1, S, h2, h3⟩ := h
  refine (appendOf d k n S s hs v b w1 h2 hk.ok hu hn (fun w' hc => hb w' (h1.chg hc h3))).mono ?_
  rintro e w2 hp
  exact DskP.op h1 h3 hp
/-- The three boxes of install, and the disk. -/
structure Ins (P : Nat → Prop) (w : World) (d : Nat) (k : Dk) (c : Int) (u : World) : Prop where
  dsk : DskP (fun x => P x ∨ (w.heap.size ≤ x ∧ x < w.heap.size + 3)) u d k u
  kp : Keep P w u
  big : w.heap.size + 3 ≤ u.heap.size
  c0 : u.cell? ⟨w.heap.size, 0, none⟩ = some (.pointer (some ⟨d, 0, none⟩))
  c1 : u.cell? ⟨w.heap.size + 1, 0, none⟩ = some (.string nmTmp)
  c2 : u.cell? ⟨w.heap.size + 1 + 1, 0, none⟩ = some (.int .i64 c)
  f2 : u.frozen? ⟨w.heap.size + 1 + 1, 0, none⟩ = false
def boxes (w : World) (d : Nat) : World := ((w.alloc (.cells #[.pointer (some ⟨d, 0, none⟩)] 24)).alloc (.cells #[.string nmTmp] 9)).alloc (.cells #[.int .i64 0] 30)
theorem Ins.start {P : Nat → Prop} {w : World} {d : Nat} {k : Dk} (h : DskP P w d k w) : Ins P w d k 0 (boxes w d) := by
  have hb1 : Below w.heap.size w (w.alloc (.cells #[.pointer (some ⟨d, 0, none⟩)] 24)) := (Below.refl _ _).alloc (Nat.le_refl _) _
  have hb2 : Below (w.heap.size + 1) (w.alloc (.cells #[.pointer (some ⟨d, 0, none⟩)] 24)) ((w.alloc (.cells #[.pointer (some ⟨d, 0, none⟩)] 24)).alloc (.cells #[.string nmTmp] 9)) := (Below.refl _ _).alloc (by simp) _
  have hb3 : Below (w.heap.size + 2) ((w.alloc (.cells #[.pointer (some ⟨d, 0, none⟩)] 24)).alloc (.cells #[.string nmTmp] 9)) (boxes w d) := (Below.refl _ _).alloc (by simp) _
  have hb : Below w.heap.size w (boxes w d) := (hb1.trans (hb2.mono (by omega))).trans (hb3.mono (by omega))
  have hs : (boxes w d).heap.size = w.heap.size + 3 := by simp [boxes]
  obtain ⟨h1, S, h2, h3⟩ := h
  refine ⟨⟨Keep.refl (fun x hx => ?_), S, h2.later hb, fun x hx hp => ?_⟩, h1.later hb, by omega, ?_, ?_, ?_, ?_⟩
  · rcases hx with hx | hx
    · have := h1.lt x hx; omega
    · omega
  · have := h2.rng x hx
    rcases hp with hp | hp
    · exact h3 x hx hp
    · omega
  · rw [hb3.cell (p := ⟨w.heap.size, 0, none⟩) (by show w.heap.size < _; omega), hb2.cell (p := ⟨w.heap.size, 0, none⟩) (by show w.heap.size < _; omega)]
    exact World.cell?_alloc_at _ _ _ _ rfl
  · rw [hb3.cell (p := ⟨w.heap.size + 1, 0, none⟩) (by show w.heap.size + 1 < _; omega)]
    exact World.cell?_alloc_at _ _ _ _ (by simp)
  · exact World.cell?_alloc_at _ _ _ _ (by simp)
  · exact World.frozen?_alloc_at _ _ _ _ (by simp)
theorem Ins.op {P : Nat → Prop} {w u u' : World} {d : Nat} {k k' : Dk} {c : Int} (h : Ins P w d k c u) (h' : DskP (fun x => P x ∨ (w.heap.size ≤ x ∧ x < w.heap.size + 3)) u d k' u') : Ins P w d k' c u' := by
  obtain ⟨h1, S, h2, h3⟩ := h'
  have hcell : ∀ b, b < 3 → ∀ v, u.cell? ⟨w.heap.size + b, 0, none⟩ = some v → u'.cell? ⟨w.heap.size + b, 0, none⟩ = some v := fun b hb v hv => h1.cell (.inr ⟨by omega, by omega⟩) hv
  refine ⟨⟨Keep.refl (fun x hx => Nat.lt_of_lt_of_le (h1.lt x hx) h1.size), S, h2, h3⟩, ?_, Nat.le_trans h.big h1.size, hcell 0 (by omega) _ h.c0, hcell 1 (by omega) _ h.c1, hcell 2 (by omega) _ h.c2, ?_⟩
  · exact ⟨h1.os.trans h.kp.os, h1.tape.trans h.kp.tape, h1.output.trans h.kp.output, Nat.le_trans h.kp.size h1.size, h.kp.lt, fun x hx => (h1.block x (.inl hx)).trans (h.kp.block x hx)⟩
  · rw [World.frozen?_of_block (w := u) (a := ⟨w.heap.size + 1 + 1, 0, none⟩) (h1.block _ (.inr ⟨by show w.heap.size ≤ w.heap.size + 1 + 1; omega, by show w.heap.size + 1 + 1 < w.heap.size + 3; omega⟩))]
    exact h.f2
theorem Ins.put {P : Nat → Prop} {w u : World} {d : Nat} {k : Dk} {c : Int} (h : Ins P w d k c u) (x : Int) : Ins P w d k x (u.setCell ⟨w.heap.size + 1 + 1, 0, none⟩ (.int .i64 x)) := by
  have hg : u.grownBy (u.setCell ⟨w.heap.size + 1 + 1, 0, none⟩ (.int .i64 x)) (some (w.heap.size + 1 + 1)) := grow_setCells u (w.heap.size + 1 + 1) 0 [.int .i64 x]
  have hl := h.big
  have hother : ∀ b, b < w.heap.size + 2 → ∀ v, u.cell? ⟨b, 0, none⟩ = some v → (u.setCell ⟨w.heap.size + 1 + 1, 0, none⟩ (.int .i64 x)).cell? ⟨b, 0, none⟩ = some v := fun b hb v hv => by
    rw [World.cell?_of_block (w := u) (a := ⟨b, 0, none⟩) (hg.block b (by omega) (fun e => by injection e with e; omega))]; exact hv
  refine ⟨DskP.poke _ h.dsk (.inr ⟨by omega, by omega⟩), ⟨hg.os.trans h.kp.os, hg.tape.trans h.kp.tape, hg.output.trans h.kp.output, Nat.le_trans h.kp.size hg.size, h.kp.lt, fun y hy => ?_⟩, Nat.le_trans hl hg.size, hother _ (by omega) _ h.c0, hother _ (by omega) _ h.c1, ?_, ?_⟩
  · have := h.kp.lt y hy
    rw [hg.block y (by omega) (fun e => by injection e with e; omega)]
    exact h.kp.block y hy
  · exact World.cell?_setCell_same' _ _ _ (by rw [h.c2]; rfl)
  · rw [World.frozen?_setCell]; exact h.f2
theorem Ins.out {P : Nat → Prop} {w u : World} {d : Nat} {k : Dk} {c : Int} (h : Ins P w d k c u) : DskP P w d k u := by
  obtain ⟨_, S, h2, h3⟩ := h.dsk
  exact ⟨h.kp, S, h2, fun x hx hp => h3 x hx (.inl hp)⟩
/-- What install, and Replace, come to. -/
def RepPost (P : Nat → Prop) (w : World) (d n B : Nat) (A : Option (List Nat) → Prop) (b : List Nat) (fu : Bool) (e : Ending) (w' : World) : Prop :=
  ∃ (c : Int) (k' : Dk), e = .returned (.int .i64 c) ∧ DskP P w d k' w' ∧ ((c = 0 ∧ RI k' n B (fun x => x = some b)) ∨ (c = 34 ∧ RI k' n B (orNew A b) ∧ fu = true))
theorem Bad.out {r : Int × Dk} {n m B : Nat} {A : Option (List Nat) → Prop} {b : List Nat} (h : RI r.2 n B A) (hm : n ≤ m) (hb : b.length ≤ B) : RI r.2 m B (orNew A b) :=
  (⟨h.dok.more hm, h.sum, h.past, h.up, h.quota, h.nms, h.cat, h.tmp, h.bnd⟩ : RI r.2 m B A).wide (fun _ h => .inl h) (fun x hx => by
    rcases hx with hx | hx
    · exact h.bnd x hx
    · cases hx; exact hb)
end Go.Proofs.Ytgffncbmchimdaa

/-! manifest: install: its walk. -/
namespace Go.Proofs.Ytgffncbmchimdaa
open Go.RowKit Go.Maps Plain
set_option linter.unusedVariables false
set_option linter.unusedSimpArgs false

theorem hresIns : Try.f49.results = #[.cell 8 30] := by kernel_rfl
set_option maxHeartbeats 8000000 in
set_option maxRecDepth 100000 in
theorem installOf {P : Nat → Prop} {w : World} {d n B G : Nat} {k : Dk} {A : Option (List Nat) → Prop} {b : List Nat} {a : Option Addr} {m c : Nat} (h : DskP P w d k w) (hR : RI k n B A) (hd : k.dead = false) (hF : Fr k G ⟨[], [], []⟩) (hb : ∀ u, Keep P w u → BytesAt u (.slice a m c) b) (hbl : b.length ≤ B) (hB : B ≤ 268435456) (hn : n ≤ 1000) :
    Calls Try.prog 49 #[.pointer (some ⟨d, 0, none⟩), .string nmTmp, .string nmCat, .slice a m c] w (RepPost P w d (n + 4) B A b k.fused) := by
  have hmf : ∀ (fn : Fn) (first cap : Array Value) (w : World), (Instr.makeFunc fn first cap).run Try.prog w = .ok (.func fn first cap) w := fun _ _ _ _ => rfl
  have HI0 : Hid (Ins P w d k 0 (boxes w d)) := Ins.start h
  have HAP : Hid (Calls Try.prog 22 #[.pointer (some ⟨d, 0, none⟩), .string nmTmp, .slice a m c] (boxes w d) (PPost (fun x => P x ∨ (w.heap.size ≤ x ∧ x < w.heap.size + 3)) (boxes w d) d (appendK k nmTmp b))) :=
    appendP HI0.out.dsk szTmp (fun u hu => hb u ⟨hu.os.trans HI0.out.kp.os, hu.tape.trans HI0.out.kp.tape, hu.output.trans HI0.out.kp.output, Nat.le_trans HI0.out.kp.size hu.size, HI0.out.kp.lt, fun x hx => (hu.block x (.inl hx)).trans (HI0.out.kp.block x hx)⟩) hR.dok hR.sum.uok (by omega)
  have HST : Hid (((appendK k nmTmp b).1 = 0 ∧ RI (appendK k nmTmp b).2 (n + 1) B A ∧ (appendK k nmTmp b).2.dead = false ∧ (appendK k nmTmp b).2.fused = k.fused ∧ Fr (appendK k nmTmp b).2 G ⟨b, [], [FC.add b]⟩) ∨ Bad (appendK k nmTmp b) (n + 1) B A k.fused) := append_step hR hd (by omega) hF hbl hB
  have HDF : Hid (∀ (u : World) (k : Dk) (m : Nat) (A : Option (List Nat) → Prop) (c : Int), Ins P w d k c u → RI k m B A → m ≤ 2000 → (c = 0 ∨ (¬ c = 0 ∧ k.dead = true)) → CallsD Try.prog 59 #[.pointer (some ⟨w.heap.size + 1 + 1, 0, none⟩), .pointer (some ⟨w.heap.size, 0, none⟩), .pointer (some ⟨w.heap.size + 1, 0, none⟩)] .returning u fun e u' w' => u' = .returning ∧ (e = .returned (.tuple #[]) ∧ Ins P w d k c w')) := fun u k m A c hI hR hm hc => by
    refine (install1Of c .returning hI.dsk hR.dok hR.sum.uok (by omega) hI.c2 hI.c0 hI.c1 hc).mono ?_
    rintro e u' w' ⟨rfl, rfl, h⟩
    exact ⟨rfl, rfl, hI.op h⟩
  have hbx : ((w.alloc (.cells #[.pointer (some ⟨d, 0, none⟩)] 24)).alloc (.cells #[.string nmTmp] 9)).alloc (.cells #[.int .i64 0] 30) = boxes w d := rfl
  have HBL : Hid (b.length ≤ B ∧ n ≤ 1000) := ⟨hbl, hn⟩
  clear h hR hd hF hb hbl hB hn
  generalize k.fused = fu at *
  generalize hnt : nmTmp = nt at *
  generalize hnc : nmCat = nc at *
  have z0 := HI0.out.c0
  have z1 := HI0.out.c1
  have z2 := HI0.out.c2
  have z3 := HI0.out.f2
  rw [hnt] at z1
  go_enter_defers Try.func49, Try.ntmps49
  go_wp2_with fail
  refine HAP.out.mono ?_
  rintro e u1 ⟨rfl, h1⟩
  have HI1 : Hid (Ins P w d (appendK k nt b).2 0 u1) := HI0.out.op h1
  clear h1 HAP z0 z1 z2 z3
  generalize appendK k nt b = r1 at *
  obtain ⟨e1, k1⟩ := r1
  simp only at HI1 HST
  have HI2 : Hid (Ins P w d k1 e1 (u1.setCell ⟨w.heap.size + 1 + 1, 0, none⟩ (.int .i64 e1))) := HI1.out.put e1
  have y2 := HI1.out.c2
  have y3 := HI1.out.f2
  obtain ⟨u2, hu2⟩ : ∃ u2, u1.setCell ⟨w.heap.size + 1 + 1, 0, none⟩ (.int .i64 e1) = u2 := ⟨_, rfl⟩
  rw [hu2] at HI2
  have x0 := HI2.out.c0
  have x1 := HI2.out.c1
  have x2 := HI2.out.c2
  rw [hnt] at x1
  rcases HST.out with ⟨rfl, hR1, hd1, hfu1, hF1⟩ | ⟨rfl, hR1, hd1, hfu1⟩
  · have HFU1 : Hid (k1.fused = fu) := hfu1
    have HR1 : Hid (RI k1 (n + 1) B A ∧ k1.dead = false ∧ Fr k1 G ⟨b, [], [FC.add b]⟩) := ⟨hR1, hd1, hF1⟩
    clear hR1 hd1 hF1 hfu1 HST HI1
    have HC2 : Hid (Calls Try.prog 8 #[.pointer (some ⟨d, 0, none⟩), .string nmTmp] u2 (PPost (fun x => P x ∨ (w.heap.size ≤ x ∧ x < w.heap.size + 3)) u2 d (syncK k1 nmTmp))) := syncP HI2.out.dsk szTmp HR1.out.1.dok (by have := HBL.out.2; omega)
    have HT2 : Hid (((syncK k1 nmTmp).1 = 0 ∧ RI (syncK k1 nmTmp).2 (n + 1 + 1) B A ∧ (syncK k1 nmTmp).2.dead = false ∧ (syncK k1 nmTmp).2.fused = fu ∧ Fr (syncK k1 nmTmp).2 G ⟨b, b, []⟩) ∨ Bad (syncK k1 nmTmp) (n + 1 + 1) B A fu) := by unfold Hid; rw [← HFU1.out]; exact sync_step HR1.out.1 HR1.out.2.1 HR1.out.2.2 HBL.out.1
    clear HR1
    try rw [hnt] at HC2 HT2
    try rw [hnc] at HC2 HT2
    go_wp2_with fail
    refine HC2.out.mono ?_
    rintro e v2 ⟨rfl, h2⟩
    have HJ2 : Hid (Ins P w d (syncK k1 nt).2 0 v2) := HI2.out.op h2
    clear h2 HC2 HI2 x0 x1 x2
    generalize syncK k1 nt = r2 at *
    obtain ⟨e2, k2⟩ := r2
    simp only at HJ2 HT2
    have HP2 : Hid (Ins P w d k2 e2 (v2.setCell ⟨w.heap.size + 1 + 1, 0, none⟩ (.int .i64 e2))) := HJ2.out.put e2
    have y2 := HJ2.out.c2
    have y3 := HJ2.out.f2
    obtain ⟨t2, ht2⟩ : ∃ t, v2.setCell ⟨w.heap.size + 1 + 1, 0, none⟩ (.int .i64 e2) = t := ⟨_, rfl⟩
    rw [ht2] at HP2
    have x0 := HP2.out.c0
    have x1 := HP2.out.c1
    have x2 := HP2.out.c2
    rw [hnt] at x1
    rcases HT2.out with ⟨rfl, hR2, hd2, hfu2, hF2⟩ | ⟨rfl, hR2, hd2, hfu2⟩
    · have HFU2 : Hid (k2.fused = fu) := hfu2
      have HR2 : Hid (RI k2 (n + 1 + 1) B A ∧ k2.dead = false ∧ Fr k2 G ⟨b, b, []⟩) := ⟨hR2, hd2, hF2⟩
      clear hR2 hd2 hF2 HT2 HJ2
      have HC3 : Hid (Calls Try.prog 27 #[.pointer (some ⟨d, 0, none⟩), .string nmTmp, .string nmCat] t2 (PPost (fun x => P x ∨ (w.heap.size ≤ x ∧ x < w.heap.size + 3)) t2 d (renameK k2 nmTmp nmCat))) := renameP HP2.out.dsk szTmp szCat HR2.out.1.dok HR2.out.1.sum.uok (by have := HBL.out.2; omega)
      have HT3 : Hid (((renameK k2 nmTmp nmCat).1 = 0 ∧ RI (renameK k2 nmTmp nmCat).2 (n + 1 + 1 + 1) B (orNew A b) ∧ (renameK k2 nmTmp nmCat).2.dead = false ∧ (renameK k2 nmTmp nmCat).2.fused = fu ∧ look (renameK k2 nmTmp nmCat).2.L kCat = some G ∧ (renameK k2 nmTmp nmCat).2.file G = ⟨b, b, []⟩ ∧ (renameK k2 nmTmp nmCat).2.live G) ∨ Bad (renameK k2 nmTmp nmCat) (n + 1 + 1 + 1) B A fu) := by unfold Hid; rw [← HFU2.out]; exact rename_step HR2.out.1 HR2.out.2.1 (by have := HBL.out.2; omega) HR2.out.2.2 HBL.out.1
      clear HR2
      try rw [hnt] at HC3 HT3
      try rw [hnc] at HC3 HT3
      go_wp2_with fail
      refine HC3.out.mono ?_
      rintro e v3 ⟨rfl, h3⟩
      have HJ3 : Hid (Ins P w d (renameK k2 nt nc).2 0 v3) := HP2.out.op h3
      clear h3 HC3 HP2 x0 x1 x2
      generalize renameK k2 nt nc = r3 at *
      obtain ⟨e3, k3⟩ := r3
      simp only at HJ3 HT3
      have HP3 : Hid (Ins P w d k3 e3 (v3.setCell ⟨w.heap.size + 1 + 1, 0, none⟩ (.int .i64 e3))) := HJ3.out.put e3
      have y2 := HJ3.out.c2
      have y3 := HJ3.out.f2
      obtain ⟨t3, ht3⟩ : ∃ t, v3.setCell ⟨w.heap.size + 1 + 1, 0, none⟩ (.int .i64 e3) = t := ⟨_, rfl⟩
      rw [ht3] at HP3
      have x0 := HP3.out.c0
      have x1 := HP3.out.c1
      have x2 := HP3.out.c2
      rw [hnt] at x1
      rcases HT3.out with ⟨rfl, hR3, hd3, hfu3, hl3, hf3, hv3⟩ | ⟨rfl, hR3, hd3, hfu3⟩
      · have HFU3 : Hid (k3.fused = fu) := hfu3
        have HR3 : Hid (RI k3 (n + 1 + 1 + 1) B (orNew A b) ∧ k3.dead = false ∧ look k3.L kCat = some G ∧ k3.file G = ⟨b, b, []⟩ ∧ k3.live G) := ⟨hR3, hd3, hl3, hf3, hv3⟩
        clear hR3 hd3 hl3 hf3 hv3 HT3 HJ3
        have HC4 : Hid (Calls Try.prog 9 #[.pointer (some ⟨d, 0, none⟩)] t3 (PPost (fun x => P x ∨ (w.heap.size ≤ x ∧ x < w.heap.size + 3)) t3 d (syncDirK k3))) := syncDirP HP3.out.dsk HR3.out.1.dok (by have := HBL.out.2; omega)
        have HT4 : Hid (((syncDirK k3).1 = 0 ∧ RI (syncDirK k3).2 (n + 1 + 1 + 1 + 1) B (fun x => x = some b)) ∨ Bad (syncDirK k3) (n + 1 + 1 + 1 + 1) B (orNew A b) fu) := by unfold Hid; rw [← HFU3.out]; exact dir_step HR3.out.1 HR3.out.2.1 HR3.out.2.2.1 HR3.out.2.2.2.1 HR3.out.2.2.2.2 HBL.out.1
        clear HR3
        try rw [hnt] at HC4 HT4
        try rw [hnc] at HC4 HT4
        go_wp2_with fail
        refine HC4.out.mono ?_
        rintro e v4 ⟨rfl, h4⟩
        have HJ4 : Hid (Ins P w d (syncDirK k3).2 0 v4) := HP3.out.op h4
        clear h4 HC4 HP3 x0 x1 x2
        generalize syncDirK k3 = r4 at *
        obtain ⟨e4, k4⟩ := r4
        simp only at HJ4 HT4
        have HP4 : Hid (Ins P w d k4 e4 (v4.setCell ⟨w.heap.size + 1 + 1, 0, none⟩ (.int .i64 e4))) := HJ4.out.put e4
        have y2 := HJ4.out.c2
        have y3 := HJ4.out.f2
        rcases HT4.out with ⟨rfl, hR4⟩ | ⟨rfl, hR4, hd4, hfu4⟩
        · have HR4 : Hid (RI k4 (n + 1 + 1 + 1 + 1) B (fun x => x = some b)) := hR4
          clear hR4 HT4 HJ4
          go_wp2
          refine leaves_cons (f := 59) (args := #[.pointer (some ⟨w.heap.size + 1 + 1, 0, none⟩), .pointer (some ⟨w.heap.size, 0, none⟩), .pointer (some ⟨w.heap.size + 1, 0, none⟩)]) (by simp) (by simp [go_sem]) ?_
          refine (HDF.out _ k4 (n + 1 + 1 + 1 + 1) (fun x => x = some b) 0 HP4.out HR4.out (by have := HBL.out.2; omega) (.inl rfl)).mono ?_
          rintro e u' w4 ⟨rfl, rfl, hI⟩
          refine ⟨.int .i64 0, ?_, 0, k4, rfl, hI.out, .inl ⟨rfl, HR4.out⟩⟩
          have q2 := hI.c2
          simp only [results, hresIns]
          simp [go_sem, q2]
        · have HFU4 : Hid (fu = true) := hfu4
          have HR4 : Hid (RI k4 (n + 1 + 1 + 1 + 1) B (orNew A b) ∧ k4.dead = true) := ⟨hR4, hd4⟩
          clear hR4 hd4 HT4 HJ4
          go_wp2
          refine leaves_cons (f := 59) (args := #[.pointer (some ⟨w.heap.size + 1 + 1, 0, none⟩), .pointer (some ⟨w.heap.size, 0, none⟩), .pointer (some ⟨w.heap.size + 1, 0, none⟩)]) (by simp) (by simp [go_sem]) ?_
          refine (HDF.out _ k4 (n + 1 + 1 + 1 + 1) (orNew A b) 34 HP4.out HR4.out.1 (by have := HBL.out.2; omega) (.inr ⟨by omega, HR4.out.2⟩)).mono ?_
          rintro e u' w4 ⟨rfl, rfl, hI⟩
          refine ⟨.int .i64 34, ?_, 34, k4, rfl, hI.out, .inr ⟨rfl, HR4.out.1, HFU4.out⟩⟩
          have q2 := hI.c2
          simp only [results, hresIns]
          simp [go_sem, q2]
      · have HFU3 : Hid (fu = true) := hfu3
        have HR3 : Hid (RI k3 (n + 1 + 1 + 1) B A ∧ k3.dead = true) := ⟨hR3, hd3⟩
        clear hR3 hd3 HT3 HJ3
        have HI3 : Hid (Ins P w d k3 34 (t3.setCell ⟨w.heap.size + 1 + 1, 0, none⟩ (.int .i64 34))) := HP3.out.put 34
        have x3 := HP3.out.f2
        go_wp2
        refine leaves_cons (f := 59) (args := #[.pointer (some ⟨w.heap.size + 1 + 1, 0, none⟩), .pointer (some ⟨w.heap.size, 0, none⟩), .pointer (some ⟨w.heap.size + 1, 0, none⟩)]) (by simp) (by simp [go_sem]) ?_
        refine (HDF.out _ k3 (n + 1 + 1 + 1) A 34 HI3.out HR3.out.1 (by have := HBL.out.2; omega) (.inr ⟨by omega, HR3.out.2⟩)).mono ?_
        rintro e u' w4 ⟨rfl, rfl, hI⟩
        refine ⟨.int .i64 34, ?_, 34, k3, rfl, hI.out, .inr ⟨rfl, Bad.out (r := (34, k3)) HR3.out.1 (by omega) HBL.out.1, HFU3.out⟩⟩
        have q2 := hI.c2
        simp only [results, hresIns]
        simp [go_sem, q2]
    · have HFU2 : Hid (fu = true) := hfu2
      have HR2 : Hid (RI k2 (n + 1 + 1) B A ∧ k2.dead = true) := ⟨hR2, hd2⟩
      clear hR2 hd2 HT2 HJ2
      have HI3 : Hid (Ins P w d k2 34 (t2.setCell ⟨w.heap.size + 1 + 1, 0, none⟩ (.int .i64 34))) := HP2.out.put 34
      have x3 := HP2.out.f2
      go_wp2
      refine leaves_cons (f := 59) (args := #[.pointer (some ⟨w.heap.size + 1 + 1, 0, none⟩), .pointer (some ⟨w.heap.size, 0, none⟩), .pointer (some ⟨w.heap.size + 1, 0, none⟩)]) (by simp) (by simp [go_sem]) ?_
      refine (HDF.out _ k2 (n + 1 + 1) A 34 HI3.out HR2.out.1 (by have := HBL.out.2; omega) (.inr ⟨by omega, HR2.out.2⟩)).mono ?_
      rintro e u' w4 ⟨rfl, rfl, hI⟩
      refine ⟨.int .i64 34, ?_, 34, k2, rfl, hI.out, .inr ⟨rfl, Bad.out (r := (34, k2)) HR2.out.1 (by omega) HBL.out.1, HFU2.out⟩⟩
      have q2 := hI.c2
      simp only [results, hresIns]
      simp [go_sem, q2]
  · have HFU1 : Hid (fu = true) := hfu1
    have HR1 : Hid (RI k1 (n + 1) B A ∧ k1.dead = true) := ⟨hR1, hd1⟩
    clear hR1 hd1 hfu1 HST HI1
    have HI3 : Hid (Ins P w d k1 34 (u2.setCell ⟨w.heap.size + 1 + 1, 0, none⟩ (.int .i64 34))) := HI2.out.put 34
    have x3 := HI2.out.f2
    go_wp2
    refine leaves_cons (f := 59) (args := #[.pointer (some ⟨w.heap.size + 1 + 1, 0, none⟩), .pointer (some ⟨w.heap.size, 0, none⟩), .pointer (some ⟨w.heap.size + 1, 0, none⟩)]) (by simp) (by simp [go_sem]) ?_
    refine (HDF.out _ k1 (n + 1) A 34 HI3.out HR1.out.1 (by have := HBL.out.2; omega) (.inr ⟨by omega, HR1.out.2⟩)).mono ?_
    rintro e u' w4 ⟨rfl, rfl, hI⟩
    refine ⟨.int .i64 34, ?_, 34, k1, rfl, hI.out, .inr ⟨rfl, Bad.out (r := (34, k1)) HR1.out.1 (by omega) HBL.out.1, HFU1.out⟩⟩
    have q2 := hI.c2
    simp only [results, hresIns]
    simp [go_sem, q2]
end Go.Proofs.Ytgffncbmchimdaa

/-! manifest: Replace. -/
namespace Go.Proofs.Ytgffncbmchimdaa
open Go.RowKit Go.Maps Plain
set_option linter.unusedVariables false
set_option linter.unusedSimpArgs false

theorem DskP.rebase {P : Nat → Prop} {W w : World} {d : Nat} {k : Dk} (h : DskP P W d k w) : DskP P w d k w := by
  obtain ⟨h1, S, h2, h3⟩ := h
  exact ⟨Keep.refl (fun x hx => Nat.lt_of_lt_of_le (h1.lt x hx) h1.size), S, h2, h3⟩
theorem DskP.on {P : Nat → Prop} {W w w' : World} {d : Nat} {k : Dk} (h : Keep P W w) (h' : DskP P w d k w') : DskP P W d k w' := by
  obtain ⟨h1, S, h2, h3⟩ := h'
  exact ⟨h.trans h1, S, h2, h3⟩
theorem RepPost.on {P : Nat → Prop} {W w : World} {d n m B : Nat} {A : Option (List Nat) → Prop} {b : List Nat} {fu : Bool} {e : Ending} {w' : World} (h : Keep P W w) (h' : RepPost P w d n B A b fu e w') (hm : n ≤ m) : RepPost P W d m B A b fu e w' := by
  obtain ⟨c, k', rfl, h1, h2⟩ := h'
  refine ⟨c, k', rfl, DskP.on h h1, ?_⟩
  rcases h2 with ⟨rfl, h2⟩ | ⟨rfl, h2, hfu⟩
  · exact .inl ⟨rfl, ⟨h2.dok.more hm, h2.sum, h2.past, h2.up, h2.quota, h2.nms, h2.cat, h2.tmp, h2.bnd⟩⟩
  · exact .inr ⟨rfl, ⟨h2.dok.more hm, h2.sum, h2.past, h2.up, h2.quota, h2.nms, h2.cat, h2.tmp, h2.bnd⟩, hfu⟩
/-- From the point where there is no file beside it. -/
theorem goOn {P : Nat → Prop} {w w1 : World} {d n B : Nat} {k : Dk} {A : Option (List Nat) → Prop} {b : List Nat} {a : Option Addr} {m c : Nat} (h : DskP P w d k w1) (hR : RI k n B A) (hd : k.dead = false) (hl : look k.L kTmp = none) (hb : ∀ u, Keep P w u → BytesAt u (.slice a m c) b) (hbl : b.length ≤ B) (hB : B ≤ 268435456) (hn : n ≤ 999) :
    Calls Try.prog 21 #[.pointer (some ⟨d, 0, none⟩), .string nmTmp] w1 fun e w2 => ∃ x, e = .returned (.int .i64 x) ∧ ((x = 34 ∧ RepPost P w d (n + 5) B A b k.fused (.returned (.int .i64 34)) w2) ∨ (x = 0 ∧ Calls Try.prog 49 #[.pointer (some ⟨d, 0, none⟩), .string nmTmp, .string nmCat, .slice a m c] w2 (RepPost P w d (n + 5) B A b k.fused))) := by
  refine (createP (s := nmTmp) h szTmp hR.dok (by omega)).mono ?_
  rintro e w2 ⟨G, hG, rfl, h2⟩
  have hGl : ¬ k.live G := fun hl => by have := h.liveLt hl; omega
  refine ⟨_, rfl, ?_⟩
  rcases create_step hR hd (by omega) hl hGl with ⟨e0, r1, d1, fu1, f1⟩ | ⟨e0, r1, d1, fu1⟩
  · right
    refine ⟨e0, ?_⟩
    refine (installOf h2.rebase r1 d1 f1 (fun u hu => hb u (h2.1.trans hu)) hbl hB (by omega)).mono ?_
    intro e w3 h3
    rw [fu1] at h3
    exact RepPost.on h2.1 h3 (by omega)
  · left
    refine ⟨e0, 34, _, rfl, h2, .inr ⟨rfl, Bad.out (r := createK k nmTmp G) r1 (by omega) hbl, fu1⟩⟩
set_option maxHeartbeats 8000000 in
set_option maxRecDepth 100000 in
theorem replaceOf {P : Nat → Prop} {w : World} {d n B : Nat} {k : Dk} {A : Option (List Nat) → Prop} {b : List Nat} {a : Option Addr} {m c : Nat} (h : DskP P w d k w) (hR : RI k n B A) (hd : k.dead = false) (hb : ∀ u, Keep P w u → BytesAt u (.slice a m c) b) (hbl : b.length ≤ B) (hB : B ≤ 268435456) (hn : n ≤ 900) (fu : Bool) (hfu : k.fused = fu) :
    Calls Try.prog 17 #[.pointer (some ⟨d, 0, none⟩), .string nmCat, .slice a m c] w (RepPost P w d (n + 6) B A b fu) := by
  have HSZ : Hid (Calls Try.prog 48 #[.pointer (some ⟨d, 0, none⟩), .string nmTmp] w fun e w2 => e = .returned (.tuple #[.int .i64 ((szK k nmTmp).1 : Int), .int .i64 (szK k nmTmp).2]) ∧ DskP P w d k w2) := sizeP h szTmp hR.dok
  have HGO : Hid (∀ (w1 : World) (k : Dk) (n' : Nat), DskP P w d k w1 → RI k n' B A → k.dead = false → look k.L kTmp = none → n' ≤ n + 1 → k.fused = fu → Calls Try.prog 21 #[.pointer (some ⟨d, 0, none⟩), .string nmTmp] w1 fun e w2 => ∃ x, e = .returned (.int .i64 x) ∧ ((x = 34 ∧ RepPost P w d (n + 6) B A b fu (.returned (.int .i64 34)) w2) ∨ (x = 0 ∧ Calls Try.prog 49 #[.pointer (some ⟨d, 0, none⟩), .string nmTmp, .string nmCat, .slice a m c] w2 (RepPost P w d (n + 6) B A b fu)))) := fun w1 k n' h1 h2 h3 h4 h5 hfk => by
    subst hfk
    refine (goOn (n := n + 1) h1 ⟨h2.dok.more h5, h2.sum, h2.past, h2.up, h2.quota, h2.nms, h2.cat, h2.tmp, h2.bnd⟩ h3 h4 hb hbl hB (by omega)).mono ?_
    rintro e w2 ⟨x, rfl, h6⟩
    exact ⟨x, rfl, h6⟩
  have hcc : nmCat ++ (⟨#[46, 116, 109, 112]⟩ : ByteArray) = nmTmp := by decide
  cases hl : look k.L kTmp with
  | none =>
    have hs : (szK k nmTmp).2 = 31 := by
      unfold szK
      rw [if_neg (by rw [fnd_tmp0 hd hl]; decide)]
      exact fnd_tmp0 hd hl
    have HC : Hid (∀ w1, DskP P w d k w1 → Calls Try.prog 21 #[.pointer (some ⟨d, 0, none⟩), .string nmTmp] w1 fun e w2 => ∃ x, e = .returned (.int .i64 x) ∧ ((x = 34 ∧ RepPost P w d (n + 6) B A b fu (.returned (.int .i64 34)) w2) ∨ (x = 0 ∧ Calls Try.prog 49 #[.pointer (some ⟨d, 0, none⟩), .string nmTmp, .string nmCat, .slice a m c] w2 (RepPost P w d (n + 6) B A b fu)))) := fun w1 h1 => HGO.out w1 k n h1 hR hd hl (by omega) hfu
    rw [hs] at HSZ
    generalize (szK k nmTmp).1 = zz at HSZ
    clear hs hl HGO h hR hd hb hbl hB hn hfu
    go_enter Try.func17, Try.ntmps17
    go_wp2_with fail
    refine HSZ.out.mono ?_
    rintro e w2 ⟨rfl, h2⟩
    have H2 : Hid (DskP P w d k w2) := h2
    clear h2 HSZ
    go_wp2_with fail
    refine (HC.out w2 H2.out).mono ?_
    rintro e w3 ⟨x3, rfl, h3⟩
    rcases h3 with ⟨rfl, h3⟩ | ⟨rfl, h3⟩
    · have H3 : Hid (RepPost P w d (n + 6) B A b fu (.returned (.int .i64 34)) w3) := h3
      clear h3
      go_wp2
      go_ret
      exact H3.out
    · have H3 : Hid (Calls Try.prog 49 #[.pointer (some ⟨d, 0, none⟩), .string nmTmp, .string nmCat, .slice a m c] w3 (RepPost P w d (n + 6) B A b fu)) := h3
      clear h3
      go_wp2_with fail
      refine H3.out.mono ?_
      intro e w4 h4
      obtain ⟨c4, k4, rfl, h5⟩ := h4
      have H5 : Hid (RepPost P w d (n + 6) B A b fu (.returned (.int .i64 c4)) w4) := ⟨c4, k4, rfl, h5⟩
      clear h5
      go_wp2
      go_ret
      exact H5.out
  | some g =>
    have hs : (szK k nmTmp).2 = 0 := by
      unfold szK
      rw [if_pos (fnd_tmp hd hl)]
    have HRM : Hid (∀ w1, DskP P w d k w1 → Calls Try.prog 28 #[.pointer (some ⟨d, 0, none⟩), .string nmTmp] w1 fun e w2 => ∃ x, e = .returned (.int .i64 x) ∧ ((x = 34 ∧ RepPost P w d (n + 6) B A b fu (.returned (.int .i64 34)) w2) ∨ (x = 0 ∧ Calls Try.prog 21 #[.pointer (some ⟨d, 0, none⟩), .string nmTmp] w2 fun e w2 => ∃ x, e = .returned (.int .i64 x) ∧ ((x = 34 ∧ RepPost P w d (n + 6) B A b fu (.returned (.int .i64 34)) w2) ∨ (x = 0 ∧ Calls Try.prog 49 #[.pointer (some ⟨d, 0, none⟩), .string nmTmp, .string nmCat, .slice a m c] w2 (RepPost P w d (n + 6) B A b fu)))))) := fun w1 h1 => by
      refine (removeP (s := nmTmp) h1 szTmp hR.dok hR.sum.uok (by omega)).mono ?_
      rintro e w2 ⟨rfl, h2⟩
      refine ⟨_, rfl, ?_⟩
      rcases rem_step hR hd (by omega) hl with ⟨e0, r1, d1, fu1, l1⟩ | ⟨e0, r1, d1, fu1⟩
      · exact .inr ⟨e0, HGO.out w2 _ (n + 1) h2 r1 d1 l1 (Nat.le_refl _) (fu1.trans hfu)⟩
      · exact .inl ⟨e0, 34, _, rfl, h2, .inr ⟨rfl, Bad.out (r := removeK k nmTmp) r1 (by omega) hbl, hfu ▸ fu1⟩⟩
    rw [hs] at HSZ
    generalize (szK k nmTmp).1 = zz at HSZ
    clear hs hl HGO h hR hd hb hbl hB hn hfu
    go_enter Try.func17, Try.ntmps17
    go_wp2_with fail
    refine HSZ.out.mono ?_
    rintro e w2 ⟨rfl, h2⟩
    have H2 : Hid (DskP P w d k w2) := h2
    clear h2 HSZ
    go_wp2_with fail
    refine (HRM.out w2 H2.out).mono ?_
    rintro e w5 ⟨x5, rfl, h5⟩
    rcases h5 with ⟨rfl, h5⟩ | ⟨rfl, h5⟩
    · have H6 : Hid (RepPost P w d (n + 6) B A b fu (.returned (.int .i64 34)) w5) := h5
      clear h5
      go_wp2
      go_ret
      exact H6.out
    · have H6 : Hid (Calls Try.prog 21 #[.pointer (some ⟨d, 0, none⟩), .string nmTmp] w5 fun e w2 => ∃ x, e = .returned (.int .i64 x) ∧ ((x = 34 ∧ RepPost P w d (n + 6) B A b fu (.returned (.int .i64 34)) w2) ∨ (x = 0 ∧ Calls Try.prog 49 #[.pointer (some ⟨d, 0, none⟩), .string nmTmp, .string nmCat, .slice a m c] w2 (RepPost P w d (n + 6) B A b fu)))) := h5
      clear h5
      go_wp2_with fail
      refine (H6.out).mono ?_
      rintro e w3 ⟨x3, rfl, h3⟩
      rcases h3 with ⟨rfl, h3⟩ | ⟨rfl, h3⟩
      · have H3 : Hid (RepPost P w d (n + 6) B A b fu (.returned (.int .i64 34)) w3) := h3
        clear h3
        go_wp2
        go_ret
        exact H3.out
      · have H3 : Hid (Calls Try.prog 49 #[.pointer (some ⟨d, 0, none⟩), .string nmTmp, .string nmCat, .slice a m c] w3 (RepPost P w d (n + 6) B A b fu)) := h3
        clear h3
        go_wp2_with fail
        refine H3.out.mono ?_
        intro e w4 h4
        obtain ⟨c4, k4, rfl, h5⟩ := h4
        have H5 : Hid (RepPost P w d (n + 6) B A b fu (.returned (.int .i64 c4)) w4) := ⟨c4, k4, rfl, h5⟩
        clear h5
        go_wp2
        go_ret
        exact H5.out
end Go.Proofs.Ytgffncbmchimdaa

/-! manifest: the law's same, file, laid. -/
namespace Go.Proofs.Ytgffncbmchimdaa
open Go.RowKit Go.Maps Plain
set_option linter.unusedVariables false
set_option linter.unusedSimpArgs false

set_option maxHeartbeats 400000 in
theorem same7Of (va vb : Value) (la lb : List Nat) (w : World) (ha : BytesAt w va la) (hb : BytesAt w vb lb) :
    Calls Try.prog 19 #[va, vb] w fun e w' => e = .returned (.bool (decide (la = lb))) ∧ ∃ n, w' = w.drewN n := by
  obtain ⟨a, cap, rfl, hlc, hcm, hby, hcells⟩ := ha
  obtain ⟨a', cap', rfl, hlc', hcm', hby', hcells'⟩ := hb
  unfold maxLen at hcm hcm'
  clear hby hby'
  by_cases hlen : la.length = lb.length
  · by_cases hnil : la = []
    · subst hnil
      have : lb = [] := List.length_eq_zero_iff.mp hlen.symm
      subst this
      clear hcells hcells' hlen
      go_enter Try.func19, Try.ntmps19
      go_wp2
      refine wp_loop_rounds 1 ?_
      rw [rounds_succ]
      go_wp2
      go_ret
      exact ⟨rfl, 0, rfl⟩
    · obtain ⟨b, off, rfl, hc⟩ := hcells hnil
      obtain ⟨b', off', rfl, hc'⟩ := hcells' (by rintro rfl; simp at hlen; exact hnil hlen)
      clear hcells hcells' hnil
      have hne : ((la.length : Int) != (lb.length : Int)) = false := by simp; omega
      have HL : Hid (la.length = lb.length) := hlen
      clear hlen
      go_enter Try.func19, Try.ntmps19
      go_wp2
      go_loopw [5] (fun i w' => ∃ k n : Nat, w' = w.drewN n ∧ k ≤ la.length ∧ i = .int .i64 k ∧ la.take k = lb.take k) (fun i _ => la.length - (intOf i).toNat)
      case atStart => exact ⟨0, 0, rfl, by omega, rfl, rfl⟩
      case round =>
        obtain ⟨k, n, rfl, hk, rfl, ht⟩ := hrel
        have HT : Hid (la.take k = lb.take k) := ht
        clear ht
        by_cases hlt : k < la.length
        · have hcell := hc k hlt
          have hcell' := hc' k (by rw [← HL.out]; exact hlt)
          have hlt' : k < lb.length := by rw [← HL.out]; exact hlt
          obtain ⟨x, hx⟩ : ∃ x, la.getD k 0 = x := ⟨_, rfl⟩
          obtain ⟨y, hy⟩ : ∃ y, lb.getD k 0 = y := ⟨_, rfl⟩
          rw [hx] at hcell
          rw [hy] at hcell'
          have HS : Hid (x = y → la.take (k + 1) = lb.take (k + 1)) := fun e => by
            rw [take_snoc hlt, take_snoc hlt', HT.out, hx, hy, e]
          have HN : Hid (x ≠ y → la ≠ lb) := fun e h => by subst h; exact e (by rw [← hx, ← hy])
          clear hx hy hc hc' HT
          by_cases hxy : x = y
          · have h2 : ((x : Int) != (y : Int)) = false := by simp; omega
            have HS2 := HS.out hxy
            have HS3 : Hid (la.take (k + 1) = lb.take (k + 1)) := HS2
            clear HS HS2 HN hxy
            go_wp2
            go_quiet (fail)
            go_wp2
            go_roundw
            case rel => exact ⟨k + 1, _, rfl, by omega, by go_num, HS3.out⟩
            case measure => simp [intOf]; omega
          · have h2 : ((x : Int) != (y : Int)) = true := by simp; omega
            have HN2 : Hid (la ≠ lb) := HN.out hxy
            clear HS HN hxy
            go_wp2
            go_quiet (fail)
            go_wp2
            go_ret
            exact ⟨by rw [decide_eq_false HN2.out]; rfl, dn2 _ _ _⟩
        · have HE : Hid (la = lb) := by
            have := HT.out
            rw [List.take_of_length_le (by omega), List.take_of_length_le (by rw [← HL.out]; omega)] at this
            exact this
          clear hc hc' HT
          go_wp2
          go_ret
          exact ⟨by rw [decide_eq_true HE.out]; rfl, _, rfl⟩
  · have hne : ((la.length : Int) != (lb.length : Int)) = true := by simp; omega
    have HN : Hid (la ≠ lb) := fun h => hlen (by rw [h])
    clear hcells hcells' hlen
    go_enter Try.func19, Try.ntmps19
    go_wp2
    go_ret
    exact ⟨by rw [decide_eq_false HN.out]; rfl, 0, rfl⟩

theorem names_ne {a b : ByteArray} (h : ¬ a = b) : (a.toList == b.toList) = false := by
  rw [beq_eq_false_iff_ne, ByteArray.toList_eq, ByteArray.toList_eq]
  exact fun e => h (WideShapes.bytes_inj e)

theorem imgLook_step {im : List (Nm × List Nat)} {i : Nat} {nm : Nm} {l : List Nat} (h : ∀ j p, j < i → im[j]? = some p → p.1 ≠ kCat) (hi : im[i]? = some (nm, l)) (e : nm = kCat) : imgLook im kCat = some l := by
  unfold imgLook
  have : im.find? (fun p => p.1 == kCat) = some (nm, l) := by
    rw [List.find?_eq_some_iff_getElem]
    obtain ⟨hl, he⟩ := List.getElem?_eq_some_iff.mp hi
    refine ⟨by simpa using e, i, hl, he, fun j hj => ?_⟩
    have := h j im[j] hj (List.getElem?_eq_getElem (by omega))
    simpa using this
  rw [this]; rfl
theorem imgLook_end {im : List (Nm × List Nat)} (h : ∀ j p, j < im.length → im[j]? = some p → p.1 ≠ kCat) : imgLook im kCat = none := by
  unfold imgLook
  rw [Option.map_eq_none_iff, List.find?_eq_none]
  intro p hp
  obtain ⟨j, hj, e⟩ := List.getElem_of_mem hp
  have := h j p hj (by rw [List.getElem?_eq_getElem hj, e])
  simpa using this
/-- What file answers. -/
def FilePost (w : World) (im : List (Nm × List Nat)) (e : Ending) (w' : World) : Prop :=
  (imgLook im kCat = none ∧ e = .returned (.tuple #[.slice none 0 0, .bool false]) ∧ Below w.heap.size w w') ∨ ∃ x a n c, imgLook im kCat = some x ∧ e = .returned (.tuple #[.slice a n c, .bool true]) ∧ BytesAt w' (.slice a n c) x ∧ Below w.heap.size w w'
set_option maxHeartbeats 4000000 in
set_option maxRecDepth 100000 in
theorem lfileOf (v : Value) (im : List (Nm × List Nat)) (w : World) (h : ImR w v im) : Calls Try.prog 18 #[v, .string nmCat] w (FilePost w im) := by
  obtain ⟨a, cap, rfl, hc1, hc2, hcells⟩ := h
  have HC : Hid (∀ j k l, im[j]? = some (k, l) → ∃ b, a = some ⟨b, 0, none⟩ ∧ ∃ ad nd cd, w.cell? ⟨b, j * 2, none⟩ = some (.string (str k)) ∧ w.cell? ⟨b, j * 2 + 1, none⟩ = some (.slice ad nd cd) ∧ BytesAt w (.slice ad nd cd) l) := fun j k l hj => by
    obtain ⟨b, e, hb⟩ := hcells (by rintro rfl; simp at hj)
    exact ⟨b, e, hb j k l hj⟩
  clear hcells
  generalize hnc : nmCat = nc
  go_enter Try.func18, Try.ntmps18
  go_wp2
  go_loopw [6] (fun i wr => ∃ k n : Nat, wr = w.drewN n ∧ k ≤ im.length ∧ i = .int .i64 k ∧ Hid (∀ j p, j < k → im[j]? = some p → p.1 ≠ kCat)) (fun i _ => im.length - (intOf i).toNat)
  case atStart => exact ⟨0, 0, rfl, by omega, rfl, fun j p hj => by omega⟩
  case round =>
    obtain ⟨k, n, rfl, hk, rfl, HN⟩ := hrel
    by_cases hlt : k < im.length
    · obtain ⟨p, hp⟩ : ∃ p, im[k]? = some p := ⟨_, List.getElem?_eq_getElem hlt⟩
      obtain ⟨nm, l⟩ := p
      obtain ⟨b, rfl, ad, nd, cd, g1, g2, g3⟩ := HC.out k nm l hp
      have HB : Hid (BytesAt w (.slice ad nd cd) l) := g3
      have hki : (k : Int) < (im.length : Int) := by omega
      clear g3
      by_cases he : nm = kCat
      · have HE : Hid (imgLook im kCat = some l) := imgLook_step HN.out hp he
        have hs : str nm = nc := by rw [he, ← hnc]; rfl
        rw [hs] at g1
        clear hp he
        go_wp2
        go_ret2
        have hb : Below w.heap.size w (w.drewN n) := ⟨rfl, rfl, rfl, Nat.le_refl _, fun _ _ => rfl⟩
        exact .inr ⟨l, ad, nd, cd, HE.out, rfl, HB.out.later hb, hb⟩
      · have hB : ((str nm).toList == nc.toList) = false := names_ne (fun e => he (by rw [← str_list nm, e, ← hnc]; rfl))
        have HN2 : Hid (∀ j p, j < k + 1 → im[j]? = some p → p.1 ≠ kCat) := fun j p hj hpj => by
          by_cases e : j = k
          · subst e
            rw [hp] at hpj
            cases hpj
            exact he
          · exact HN.out j p (by omega) hpj
        clear hp he
        go_wp2
        go_roundw
        case rel => exact ⟨k + 1, n, rfl, by omega, by go_num, HN2.out⟩
        case measure => simp [intOf]; omega
    · obtain rfl : k = im.length := by omega
      have HE : Hid (imgLook im kCat = none) := imgLook_end HN.out
      go_wp2
      go_ret2
      exact .inl ⟨HE.out, rfl, ⟨rfl, rfl, rfl, Nat.le_refl _, fun _ _ => rfl⟩⟩
theorem ImOk.none : ImOk [] := ⟨by simp, by simp, by simp, by simp, by simp, by simp⟩
set_option maxHeartbeats 4000000 in
theorem laidOf7 (w : World) : Calls Try.prog 15 #[.string nmCat, .slice none 0 0, .bool false] w fun e w' => ∃ k d, LdI 1073741824 [] k ∧ e = .returned (.tuple #[.pointer (some ⟨d, 0, none⟩), .bool true]) ∧ Dsk w d k.settled w' := by
  have HL : Hid (Calls Try.prog 13 #[.slice none 0 0, .int .i64 1073741824] w fun e w' => ∃ xs k d, xs.map (·.1) = [] ∧ LdI 1073741824 xs k ∧ e = .returned (.tuple #[.pointer (some ⟨d, 0, none⟩), .int .i64 0]) ∧ Dsk w d k.settled w') := loadIm 1073741824 (by decide) _ [] w ⟨none, 0, rfl, by simp, by omega, by simp⟩ ImOk.none
  generalize nmCat = nc
  go_enter Try.func15, Try.ntmps15
  go_wp2_with fail
  refine HL.out.mono ?_
  rintro e w1 ⟨xs, k, d, hx, hl, rfl, hd⟩
  obtain rfl : xs = [] := by simpa using hx
  have H1 : Hid (LdI 1073741824 [] k ∧ Dsk w d k.settled w1) := ⟨hl, hd⟩
  clear hx hl hd
  go_wp2
  go_ret2
  exact ⟨k, d, H1.out.1, rfl, H1.out.2⟩
end Go.Proofs.Ytgffncbmchimdaa

/-! manifest: what the law of replacements asks of a disk, call by call; what it keeps. -/
namespace Go.Proofs.Ytgffncbmchimdaa
open Go.RowKit Go.Maps Plain
set_option linter.unusedVariables false
set_option linter.unusedSimpArgs false

theorem DskP.backW {W w w' : World} {d : Nat} {k : Dk} (h : DskP (fun x => x < W.heap.size) w d k w') (hb : Below W.heap.size W w) : Dsk W d k w' := by
  obtain ⟨h1, S, h2, h3⟩ := h
  refine ⟨hb.trans (h1.below (fun x hx => hx)), S, h2, fun x hx => ?_⟩
  have := h3 x hx
  omega
theorem Dsk.down {W w w' : World} {d : Nat} {k : Dk} (h : Dsk w d k w') (hb : Below W.heap.size W w) : Dsk W d k w' := by
  obtain ⟨h1, S, h2, h3⟩ := h
  exact ⟨hb.trans (h1.mono hb.size), S, h2, fun x hx => Nat.le_trans hb.size (h3 x hx)⟩
theorem RI.fuses {k : Dk} {n B : Nat} {A : Option (List Nat) → Prop} (h : RI k n B A) (z : Int) (hz : I64 z) : RI (k.fuses z) n B A :=
  ⟨⟨⟨h.dok.ok.refs, h.dok.ok.fok, h.dok.ok.ops, fun e => by
      have : (0 : Int) ≤ z := of_decide_eq_true e
      exact ⟨this, hz.2⟩⟩, h.dok.dir, h.dok.eq, h.dok.cnt, h.dok.few⟩, ⟨h.sum.keys, h.sum.files, h.sum.used, h.sum.quota, h.sum.lim⟩, ⟨h.past.ld, h.past.made, h.past.few⟩, h.up, h.quota, h.nms, h.cat, h.tmp, h.bnd⟩
theorem fuseD7 {W w : World} {d n B : Nat} {k : Dk} {A : Option (List Nat) → Prop} (h : Dsk W d k w) (hR : RI k n B A) (hd : k.dead = false) (z : Int) (hz : I64 z) : Calls Try.prog 16 #[.pointer (some ⟨d, 0, none⟩), .int .i64 z] w fun e w' => e = .returned (.tuple #[]) ∧ ∃ k', Dsk W d k' w' ∧ RI k' n B A ∧ k'.dead = false := by
  refine (fuseP h.asP z hz).mono ?_
  rintro e w' ⟨rfl, h2⟩
  have e2 : fuseK k z = k.fuses z := by unfold fuseK; rw [hd]; rfl
  rw [e2] at h2
  exact ⟨rfl, _, h2.backW (Below.refl _ _), hR.fuses z hz, hd⟩
def RepD (W : World) (d n B : Nat) (A : Option (List Nat) → Prop) (b : List Nat) (fu : Bool) (e : Ending) (w' : World) : Prop :=
  ∃ (c : Int) (k' : Dk), e = .returned (.int .i64 c) ∧ Dsk W d k' w' ∧ ((c = 0 ∧ RI k' n B (fun x => x = some b)) ∨ (c = 34 ∧ RI k' n B (orNew A b) ∧ fu = true))
theorem replaceD7 {W w : World} {d n B : Nat} {k : Dk} {A : Option (List Nat) → Prop} {b : List Nat} {a : Option Addr} {m c : Nat} (h : Dsk W d k w) (hR : RI k n B A) (hd : k.dead = false) (hb : BytesAt W (.slice a m c) b) (hbl : b.length ≤ B) (hB : B ≤ 268435456) (hn : n ≤ 900) :
    Calls Try.prog 17 #[.pointer (some ⟨d, 0, none⟩), .string nmCat, .slice a m c] w (RepD W d (n + 6) B A b k.fused) := by
  refine (replaceOf h.asP.rebase hR hd (fun u hu => hb.later (h.1.trans (hu.below (fun x hx => hx)))) hbl hB hn k.fused rfl).mono ?_
  rintro e w' ⟨c, k', rfl, h1, h2⟩
  exact ⟨c, k', rfl, h1.backW h.1, h2⟩
theorem replaceN7 {W w w2 : World} {d n B : Nat} {k : Dk} {A : Option (List Nat) → Prop} {b : List Nat} {a : Option Addr} {m c : Nat} (h : Dsk W d k w) (hw : Below w.heap.size w w2) (hR : RI k n B A) (hd : k.dead = false) (hb : ∀ u, (∀ x, w.heap.size ≤ x → x < w2.heap.size → u.heap[x]? = w2.heap[x]?) → w2.heap.size ≤ u.heap.size → BytesAt u (.slice a m c) b) (hbl : b.length ≤ B) (hB : B ≤ 268435456) (hn : n ≤ 900) :
    Calls Try.prog 17 #[.pointer (some ⟨d, 0, none⟩), .string nmCat, .slice a m c] w2 (RepD W d (n + 6) B A b k.fused) := by
  refine (replaceOf (h.guardP hw) hR hd (fun u hu => hb u (fun x h1 h2 => hu.block x (.inr ⟨h1, h2⟩)) hu.size) hbl hB hn k.fused rfl).mono ?_
  rintro e w' ⟨c, k', rfl, h1, h2⟩
  exact ⟨c, k', rfl, h1.backR (below_on h.1 hw), h2⟩
theorem crashD7 {W w : World} {d n B : Nat} {k : Dk} {A : Option (List Nat) → Prop} {a : Option Addr} {m c : Nat} {ps : List Int} (h : Dsk W d k w) (hR : RI k n B A) (hn : n ≤ 1000) (hp : PicksAt W (.slice a m c) ps) (hpo : PicksOff W.heap.size (.slice a m c)) :
    Calls Try.prog 12 #[.pointer (some ⟨d, 0, none⟩), .slice a m c] w fun e w2 => ∃ a l c, e = .returned (.slice a l c) ∧ ImR w2 (.slice a l c) (crK k ps) ∧ Below w.heap.size w w2 := by
  have hs := h.1.size
  have hp' : PicksAt w (.slice a m c) ps := by
    obtain ⟨a', cap', e, h1, h2, h3, h4⟩ := hp
    refine ⟨a', cap', e, h1, h2, h3, fun hne => ?_⟩
    obtain ⟨b, off, e2, h5⟩ := h4 hne
    exact ⟨b, off, e2, fun j x hj => by have := h5 j x hj; exact (h.1.cell (p := ⟨b, off + j, none⟩) (cell_lt this)).trans this⟩
  have hpo' : PicksOff w.heap.size (.slice a m c) := fun b off n c e => Nat.lt_of_lt_of_le (hpo b off n c e) hs
  refine (crashPc h.asP hR.dok hR.past (by have := hR.dok.cnt; omega) ⟨hp', hpo'⟩).mono ?_
  rintro e w2 ⟨a, l, c, rfl, h1, h2⟩
  exact ⟨a, l, c, rfl, h1.read, h2⟩
theorem crash_small {k : Dk} {n B : Nat} {A : Option (List Nat) → Prop} (h : RI k n B A) (ps : List Int) : ∀ p ∈ crK k ps, (p.1 = kCat ∨ p.1 = kTmp) ∧ p.2.length ≤ B := fun p hp => by
  rcases crash_each h ps p hp with ⟨h1, _, h2⟩ | ⟨h1, h2⟩
  · exact ⟨.inl h1, h2⟩
  · exact ⟨.inr h1, h2⟩
/-- The disk that the law has at hand, with what stands there. -/
structure Hand (W : World) (d : Nat) (cur : Option (List Nat)) (w : World) : Prop where
  ex : ∃ k, Dsk W d k w ∧ RI k 2 268435456 (fun x => x = cur) ∧ k.dead = false ∧ k.fused = false
theorem loadD7 {W w : World} {v : Value} {k : Dk} {n : Nat} {A : Option (List Nat) → Prop} {ps : List Int} (hb : Below W.heap.size W w) (hR : RI k n 268435456 A) (h : ImR w v (crK k ps)) : Calls Try.prog 13 #[v, .int .i64 1073741824] w fun e w' => ∃ d, e = .returned (.tuple #[.pointer (some ⟨d, 0, none⟩), .int .i64 0]) ∧ Hand W d (imgLook (crK k ps) kCat) w' := by
  refine (loadIm 1073741824 (by decide) v _ w h (crash_im hR (by omega) ps)).mono ?_
  rintro e w' ⟨xs, k', d, hx, hl, rfl, hd⟩
  obtain ⟨h1, h2⟩ := load_ri hl hx (crash_im hR (by omega) ps) (crash_small hR ps)
  exact ⟨d, rfl, ⟨_, hd.down hb, h1, h2, hl.on.fused⟩⟩
/-- What stands there, told by the texts: none of them, or one that is no elder than the last that was answered OK. -/
def Lst (ts : List (List Nat)) (i : Nat) (last : Int) (cur : Option (List Nat)) : Prop :=
  -1 ≤ last ∧ last < i ∧ ((cur = none ∧ last = -1) ∨ ∃ j : Nat, last ≤ j ∧ j < i ∧ cur = some (ts.getD j []))
theorem Lst.ok {ts : List (List Nat)} {i : Nat} : Lst ts (i + 1) i (some (ts.getD i [])) := ⟨by omega, by omega, .inr ⟨i, by omega, by omega, rfl⟩⟩
theorem Lst.bad {ts : List (List Nat)} {i : Nat} {last : Int} {cur x : Option (List Nat)} (h : Lst ts i last cur) (hx : orNew (fun x => x = cur) (ts.getD i []) x) : Lst ts (i + 1) last x := by
  obtain ⟨h1, h2, h3⟩ := h
  refine ⟨h1, by omega, ?_⟩
  rcases hx with rfl | rfl
  · rcases h3 with h3 | ⟨j, h4, h5, h6⟩
    · exact .inl h3
    · exact .inr ⟨j, h4, by omega, h6⟩
  · exact .inr ⟨i, by omega, by omega, rfl⟩
/-- Texts that came in. -/
def TsAt (W : World) (v : Value) (ts : List (List Nat)) : Prop := ∃ a cap, v = .slice a ts.length cap ∧ ∀ j, j < ts.length → ∃ b off, a = some ⟨b, off, none⟩ ∧ ∃ aj nj cj, W.cell? ⟨b, off + j, none⟩ = some (.slice aj nj cj) ∧ BytesAt W (.slice aj nj cj) (ts.getD j [])
/-- Is it one of these? -/
def among (ts : List (List Nat)) (x : Option (List Nat)) (m k : Nat) : Bool := (List.range k).any fun j => decide (m ≤ j) && decide (x = some (ts.getD j []))
theorem among_step (ts : List (List Nat)) (x : Option (List Nat)) (m k : Nat) (h : m ≤ k) : among ts x m (k + 1) = (among ts x m k || decide (x = some (ts.getD k []))) := by
  unfold among
  rw [List.range_succ, List.any_append]
  simp [h]
theorem among_zero (ts : List (List Nat)) (x : Option (List Nat)) (m : Nat) : among ts x m m = false := by
  unfold among
  rw [List.any_eq_false]
  intro j hj
  have := List.mem_range.mp hj
  simp; omega
theorem among_is {ts : List (List Nat)} {x : Option (List Nat)} {m k j : Nat} (h1 : m ≤ j) (h2 : j < k) (h3 : x = some (ts.getD j [])) : among ts x m k = true := by
  unfold among
  rw [List.any_eq_true]
  exact ⟨j, List.mem_range.mpr h2, by simp [h1, h3]⟩
end Go.Proofs.Ytgffncbmchimdaa
