import Derived.Test.YthcnhjmkcekdaaaGreatQs15
import Derived.Test.YthcnhjmkcekdaaaGreatQs14
import Derived.Test.YthcnhjmkcekdaaaGreatRows
import Derived.ProofKit
import Derived.OpenShut
import Derived.SizedLaws
import Derived.Deep.Slices
namespace Go.Proofs.YthcnhjmkcekdaaaGreat
open Go.RowKit Go.Maps Plain
set_option linter.unusedVariables false
set_option linter.unusedSimpArgs false
theorem ins_perm (x : Nm × Nat) : ∀ L : Dir, (ins x L).Perm (x :: L)
  | [] => List.Perm.refl _
  | y :: r => by
    unfold ins
    split
    · exact List.Perm.refl _
    · exact ((ins_perm x r).cons y).trans (List.Perm.swap x y r)
theorem put_perm (L : Dir) (k : Nm) (g : Nat) : (put L k g).Perm ((k, g) :: del L k) := ins_perm _ _
theorem look_none {L : Dir} {k : Nm} (h : look L k = none) : ∀ p ∈ L, p.1 ≠ k := by
  intro p hp e
  obtain ⟨g, hg⟩ := look_some (L := L) (k := k) (List.mem_map.mpr ⟨p, hp, e⟩)
  rw [h] at hg
  simp at hg
theorem del_none {L : Dir} {k : Nm} (h : look L k = none) : del L k = L := by
  unfold del
  rw [List.filter_eq_self]
  intro p hp
  have := look_none h p hp
  simp [this]
theorem look_of_mem {L : Dir} {k : Nm} {g : Nat} (hn : (L.map (·.1)).Nodup) (h : (k, g) ∈ L) : look L k = some g := by
  induction L with
  | nil => simp at h
  | cons p r ih =>
    rw [List.map_cons, List.nodup_cons] at hn
    unfold look
    rw [List.find?_cons]
    rcases List.mem_cons.mp h with e | e
    · subst e; simp
    · have hne : p.1 ≠ k := fun e2 => hn.1 (List.mem_map.mpr ⟨_, e, e2.symm⟩)
      have : (p.1 == k) = false := by simpa using hne
      rw [this]
      exact ih hn.2 e
theorem del_cons (p : Nm × Nat) (L : Dir) (k : Nm) : del (p :: L) k = if p.1 = k then del L k else p :: del L k := by
  unfold del
  rw [List.filter_cons]
  by_cases h : p.1 = k <;> simp [h]
theorem look_perm {L : Dir} {k : Nm} {g : Nat} (hn : (L.map (·.1)).Nodup) (h : look L k = some g) : L.Perm ((k, g) :: del L k) := by
  induction L with
  | nil => simp [look] at h
  | cons p r ih =>
    rw [List.map_cons, List.nodup_cons] at hn
    rw [del_cons]
    by_cases e : p.1 = k
    · have hp : p = (k, g) := by
        unfold look at h
        rw [List.find?_cons, show (p.1 == k) = true by simpa using e] at h
        simp at h
        rw [← e, ← h]
      have hd : del r k = r := by
        unfold del
        rw [List.filter_eq_self]
        intro q hq
        have : q.1 ≠ k := fun e2 => hn.1 (List.mem_map.mpr ⟨q, hq, by rw [e2, e]⟩)
        simp [this]
      rw [if_pos e, hd, hp]
    · rw [if_neg e]
      have h' : look r k = some g := by
        unfold look at h ⊢
        rw [List.find?_cons, show (p.1 == k) = false by simpa using e] at h
        exact h
      exact ((ih hn.2 h').cons p).trans (List.Perm.swap _ _ _)
theorem look_del {L : Dir} {s t : Nm} (h : s ≠ t) : look (del L t) s = look L s := by
  induction L with
  | nil => rfl
  | cons p r ih =>
    rw [del_cons]
    by_cases e : p.1 = t
    · rw [if_pos e, ih]
      unfold look
      rw [List.find?_cons, show (p.1 == s) = false by simpa using fun e2 : p.1 = s => h (by rw [← e2, e])]
    · rw [if_neg e]
      unfold look at ih ⊢
      rw [List.find?_cons, List.find?_cons]
      by_cases e3 : p.1 = s
      · rw [show (p.1 == s) = true by simpa using e3]
      · rw [show (p.1 == s) = false by simpa using e3]
        exact ih
def tT (f : Nat → Nat) (L : Dir) : Nat := (L.map fun p => f p.2).sum
theorem tT_perm {f : Nat → Nat} {L M : Dir} (h : L.Perm M) : tT f L = tT f M := (h.map _).sum_nat
theorem tT_cons (f : Nat → Nat) (p : Nm × Nat) (L : Dir) : tT f (p :: L) = f p.2 + tT f L := by simp [tT]
theorem tT_congr {f f' : Nat → Nat} {L : Dir} (h : ∀ p ∈ L, f p.2 = f' p.2) : tT f L = tT f' L := by
  unfold tT
  rw [List.map_congr_left h]
theorem tT_mem {f : Nat → Nat} {L : Dir} {p : Nm × Nat} (h : p ∈ L) : f p.2 ≤ tT f L := by
  induction L with
  | nil => simp at h
  | cons q r ih =>
    rw [tT_cons]
    rcases List.mem_cons.mp h with e | e
    · subst e; omega
    · have := ih e; omega
theorem tT_upd {f f' : Nat → Nat} {L : Dir} {G : Nat} (hn : (L.map (·.2)).Nodup) (hG : G ∈ L.map (·.2)) (h : ∀ x, x ≠ G → f' x = f x) : tT f' L + f G = tT f L + f' G := by
  induction L with
  | nil => simp at hG
  | cons p r ih =>
    rw [List.map_cons, List.nodup_cons] at hn
    rw [tT_cons, tT_cons]
    by_cases e : p.2 = G
    · have : tT f' r = tT f r := tT_congr (fun q hq => h _ (fun e2 => hn.1 (List.mem_map.mpr ⟨q, hq, by rw [e2, e]⟩)))
      rw [this, e]; omega
    · have hG' : G ∈ r.map (·.2) := by
        rw [List.map_cons, List.mem_cons] at hG
        rcases hG with h1 | h1
        · exact absurd h1.symm e
        · exact h1
      have := ih hn.2 hG'
      rw [h p.2 e]; omega
def Dk.len (k : Dk) : Nat → Nat := fun G => (k.file G).seen.length
/-- No name twice, no file under two names; what is used is what the files have. -/
structure Dk.Sum (k : Dk) : Prop where
  keys : (k.L.map (·.1)).Nodup
  files : (k.L.map (·.2)).Nodup
  used : k.used = (tT k.len k.L : Int)
  quota : 0 ≤ k.quota ∧ k.quota ≤ 1073741824
  lim : k.used ≤ 70368744177664
theorem Dk.Sum.uok {k : Dk} (h : k.Sum) : k.Uok :=
  ⟨⟨by rw [h.used]; omega, h.lim⟩, h.quota, fun p hp => by have := tT_mem (f := k.len) hp; have h2 := h.used; unfold Dk.len at this h2; omega⟩
theorem Dk.Sum.spent {k : Dk} (h : k.Sum) : k.spent.Sum := ⟨h.keys, h.files, h.used, h.quota, h.lim⟩
theorem look_file {L : Dir} {s : Nm} {g : Nat} (h : look L s = some g) : g ∈ L.map (·.2) := List.mem_map.mpr ⟨_, look_mem h, rfl⟩
theorem create_sum {k : Dk} {G : Nat} {s : ByteArray} (h : k.Sum) (hl : ∀ p ∈ k.L, k.live p.2) (hG : ¬ k.live G) : (createK k s G).2.Sum := by
  unfold createK
  split
  · exact h
  · split
    · exact h
    · rename_i hs
      have hn : look k.L s.data.toList = none := by cases hh : look k.L s.data.toList with
        | none => rfl
        | some g => rw [hh] at hs; simp at hs
      split
      · exact h
      · split
        · have hp : ((k.spent.addFile G).did (DC.mk s.data.toList G)).L.Perm ((s.data.toList, G) :: k.L) := by
            have := put_perm k.L s.data.toList G
            rw [del_none hn] at this
            exact this
          have hGL : ∀ p ∈ k.L, p.2 ≠ G := fun p hp e => hG (e ▸ hl p hp)
          refine ⟨(hp.map _).nodup_iff.mpr ?_, (hp.map _).nodup_iff.mpr ?_, ?_, h.quota, h.lim⟩
          · rw [List.map_cons, List.nodup_cons]
            refine ⟨fun hm => ?_, h.keys⟩
            obtain ⟨p, hp1, hp2⟩ := List.mem_map.mp hm
            exact look_none hn p hp1 hp2
          · rw [List.map_cons, List.nodup_cons]
            refine ⟨fun hm => ?_, h.files⟩
            obtain ⟨p, hp1, hp2⟩ := List.mem_map.mp hm
            exact hGL p hp1 hp2
          · rw [tT_perm hp, tT_cons]
            have e1 : ((k.spent.addFile G).did (DC.mk s.data.toList G)).len G = 0 := by
              show (upd k.file G ⟨[], [], []⟩ G).seen.length = 0
              rw [upd_same]; rfl
            have e2 : tT ((k.spent.addFile G).did (DC.mk s.data.toList G)).len k.L = tT k.len k.L := tT_congr (fun p hp => by
              show (upd k.file G ⟨[], [], []⟩ p.2).seen.length = _
              rw [upd_other _ _ _ _ (hGL p hp)]; rfl)
            show k.used = _
            rw [e1, e2, h.used]; omega
        · exact h.spent
theorem append_sum {k : Dk} {s : ByteArray} {b : List Nat} (h : k.Sum) : (appendK k s b).2.Sum := by
  unfold appendK
  split
  · split
    · exact h
    · rename_i hq
      split
      · rename_i G hG
        split
        · have hT := tT_upd (f := k.len) (f' := ((k.spent.setFile G ((k.file G).add b)).uses (k.used + b.length)).len) h.files (look_file hG) (fun x hx => by
            show (upd k.file G ((k.file G).add b) x).seen.length = _
            rw [upd_other _ _ _ _ hx]; rfl)
          have e1 : ((k.spent.setFile G ((k.file G).add b)).uses (k.used + b.length)).len G = k.len G + b.length := by
            show (upd k.file G ((k.file G).add b) G).seen.length = _
            rw [upd_same]
            simp [Fl.add, Dk.len]
          have hu := h.used
          have hq1 := h.quota
          have hlim := h.lim
          refine ⟨h.keys, h.files, ?_, h.quota, ?_⟩
          · show k.used + (b.length : Int) = (tT ((k.spent.setFile G ((k.file G).add b)).uses (k.used + b.length)).len k.L : Int)
            omega
          · show k.used + (b.length : Int) ≤ 70368744177664
            omega
        · exact h.spent
      · exact h
  · exact h
theorem trunc_sum {k : Dk} {s : ByteArray} {m : Int} (h : k.Sum) : (truncK k s m).2.Sum := by
  unfold truncK
  split
  · split
    · rename_i G hG
      split
      · exact h
      · rename_i hm
        split
        · have hT := tT_upd (f := k.len) (f' := ((k.spent.uses (k.used - ((k.file G).seen.length - m))).setFile G ((k.file G).trim m.toNat)).len) h.files (look_file hG) (fun x hx => by
            show (upd k.file G ((k.file G).trim m.toNat) x).seen.length = _
            rw [upd_other _ _ _ _ hx]; rfl)
          have e1 : ((k.spent.uses (k.used - ((k.file G).seen.length - m))).setFile G ((k.file G).trim m.toNat)).len G = m.toNat := by
            show (upd k.file G ((k.file G).trim m.toNat) G).seen.length = _
            rw [upd_same]
            simp [Fl.trim]
            omega
          have e2 : k.len G = (k.file G).seen.length := rfl
          have hu := h.used
          have hlim := h.lim
          refine ⟨h.keys, h.files, ?_, h.quota, ?_⟩
          · show k.used - (((k.file G).seen.length : Int) - m) = (tT ((k.spent.uses (k.used - ((k.file G).seen.length - m))).setFile G ((k.file G).trim m.toNat)).len k.L : Int)
            omega
          · show k.used - (((k.file G).seen.length : Int) - m) ≤ 70368744177664
            omega
        · exact h.spent
    · exact h
  · exact h
theorem sync_sum {k : Dk} {s : ByteArray} (h : k.Sum) : (syncK k s).2.Sum := by
  unfold syncK
  split
  · split
    · rename_i G hG
      split
      · refine ⟨h.keys, h.files, ?_, h.quota, h.lim⟩
        show k.used = (tT _ k.L : Int)
        rw [h.used, tT_congr (f := k.len) (fun p hp => ?_)]
        show (k.file p.2).seen.length = (upd k.file G ⟨(k.file G).seen, (k.file G).seen, []⟩ p.2).seen.length
        by_cases e : p.2 = G
        · rw [e, upd_same]
        · rw [upd_other _ _ _ _ e]
      · exact h.spent
    · exact h
  · exact h
theorem syncDir_sum {k : Dk} (h : k.Sum) : (syncDirK k).2.Sum := by
  unfold syncDirK
  split
  · exact h
  · split
    · exact ⟨h.keys, h.files, h.used, h.quota, h.lim⟩
    · exact h.spent
theorem sub_nodup {L M : Dir} {p : Nm × Nat} (h : (L.map (·.2)).Nodup) (hp : L.Perm (p :: M)) : (M.map (·.2)).Nodup ∧ ∀ q ∈ M, q.2 ≠ p.2 := by
  have := (hp.map (·.2)).nodup_iff.mp h
  rw [List.map_cons, List.nodup_cons] at this
  exact ⟨this.2, fun q hq e => this.1 (List.mem_map.mpr ⟨q, hq, e⟩)⟩
theorem sub_keys {L M : Dir} {p : Nm × Nat} (h : (L.map (·.1)).Nodup) (hp : L.Perm (p :: M)) : (M.map (·.1)).Nodup ∧ ∀ q ∈ M, q.1 ≠ p.1 := by
  have := (hp.map (·.1)).nodup_iff.mp h
  rw [List.map_cons, List.nodup_cons] at this
  exact ⟨this.2, fun q hq e => this.1 (List.mem_map.mpr ⟨q, hq, e⟩)⟩
theorem remove_sum {k : Dk} {s : ByteArray} (h : k.Sum) : (removeK k s).2.Sum := by
  unfold removeK
  split
  · rename_i h0
    split
    · obtain ⟨G, hG, _⟩ := fnd_ok h0
      have hp := look_perm h.keys hG
      have hs : sizeK k s = k.len G := by unfold sizeK; rw [hG]; rfl
      have ht := tT_perm (f := k.len) hp
      rw [tT_cons] at ht
      have ht' : tT k.len k.L = k.len G + tT k.len (del k.L s.data.toList) := ht
      have hu := h.used
      have hlim := h.lim
      refine ⟨(sub_keys h.keys hp).1, (sub_nodup h.files hp).1, ?_, h.quota, ?_⟩
      · show k.used - (sizeK k s : Int) = (tT k.len (del k.L s.data.toList) : Int)
        omega
      · show k.used - (sizeK k s : Int) ≤ 70368744177664
        omega
    · exact h.spent
  · exact h
theorem rename_sum {k : Dk} {s t : ByteArray} (h : k.Sum) : (renameK k s t).2.Sum := by
  unfold renameK
  split
  · exact h
  · split
    · exact h
    · rename_i hst
      have hne : s.data.toList ≠ t.data.toList := fun e => hst (by rw [← str_of s, ← str_of t, e])
      split
      · rename_i h0
        split
        · obtain ⟨g, hg, _⟩ := fnd_ok h0
          have hon : ((k.spent.uses (k.used - sizeK k t)).did (DC.mv s.data.toList t.data.toList)).L = del (put k.L t.data.toList g) s.data.toList := by
            show DC.on k.L (DC.mv s.data.toList t.data.toList) = _
            rw [DC.on_mv, hg]; rfl
          have hpL : ((k.spent.uses (k.used - sizeK k t)).did (DC.mv s.data.toList t.data.toList)).L.Perm ((t.data.toList, g) :: del (del k.L t.data.toList) s.data.toList) := by
            rw [hon]
            have := (put_perm k.L t.data.toList g).filter (fun p => !(p.1 == s.data.toList))
            refine this.trans ?_
            show (del ((t.data.toList, g) :: del k.L t.data.toList) s.data.toList).Perm _
            rw [del_cons, if_neg (fun e => hne e.symm)]
          have hlen : ((k.spent.uses (k.used - sizeK k t)).did (DC.mv s.data.toList t.data.toList)).len = k.len := rfl
          have hu := h.used
          have hlim := h.lim
          have hd : look (del k.L t.data.toList) s.data.toList = some g := by rw [look_del hne]; exact hg
          have fin : ∀ M : Dir, del k.L t.data.toList = M → (M.map (·.1)).Nodup → (∀ q ∈ M, q.1 ≠ t.data.toList) → (M.map (·.2)).Nodup → (tT k.len k.L = sizeK k t + tT k.len M) → ((k.spent.uses (k.used - sizeK k t)).did (DC.mv s.data.toList t.data.toList)).Sum := by
            intro M hM n1 n2 n3 hT
            rw [hM] at hd hpL
            have hpM := look_perm n1 hd
            obtain ⟨a1, a2⟩ := sub_keys n1 hpM
            obtain ⟨b1, b2⟩ := sub_nodup n3 hpM
            have hTM := tT_perm (f := k.len) hpM
            rw [tT_cons] at hTM
            have hTM' : tT k.len M = k.len g + tT k.len (del M s.data.toList) := hTM
            refine ⟨(hpL.map _).nodup_iff.mpr ?_, (hpL.map _).nodup_iff.mpr ?_, ?_, h.quota, ?_⟩
            · rw [List.map_cons, List.nodup_cons]
              refine ⟨fun hm => ?_, a1⟩
              obtain ⟨q, hq1, hq2⟩ := List.mem_map.mp hm
              exact n2 q (mem_del hq1) hq2
            · rw [List.map_cons, List.nodup_cons]
              refine ⟨fun hm => ?_, b1⟩
              obtain ⟨q, hq1, hq2⟩ := List.mem_map.mp hm
              exact b2 q hq1 hq2
            · rw [hlen, tT_perm hpL, tT_cons]
              show k.used - (sizeK k t : Int) = ((k.len g + tT k.len (del M s.data.toList) : Nat) : Int)
              omega
            · show k.used - (sizeK k t : Int) ≤ 70368744177664
              omega
          cases ht : look k.L t.data.toList with
          | none =>
            have hs : sizeK k t = 0 := by unfold sizeK; rw [ht]; rfl
            refine fin k.L (del_none ht) h.keys (look_none ht) h.files (by rw [hs]; omega)
          | some x =>
            have hp := look_perm h.keys ht
            have hs : sizeK k t = k.len x := by unfold sizeK; rw [ht]; rfl
            have hT := tT_perm (f := k.len) hp
            rw [tT_cons] at hT
            obtain ⟨a1, a2⟩ := sub_keys h.keys hp
            exact fin _ rfl a1 a2 (sub_nodup h.files hp).1 (by rw [hs]; exact hT)
        · exact h.spent
      · exact h
end Go.Proofs.YthcnhjmkcekdaaaGreat

namespace Go.Proofs.YthcnhjmkcekdaaaGreat
open Go.RowKit Go.Maps Plain
set_option linter.unusedVariables false
set_option linter.unusedSimpArgs false
set_option maxRecDepth 1000000
def Dk.fuses (k : Dk) (n : Int) : Dk := { k with fused := decide (0 ≤ n), left := n }
def fuseK (k : Dk) (n : Int) : Dk := if k.dead then k else k.fuses n
theorem fuseSt {S : Nat → Prop} {w w1 : World} {d : Nat} {k : Dk} (h : St S w d k w1) (n : Int) (b : Bool) (hb : b = decide (0 ≤ n)) : St S w d (k.fuses n) ((w1.setCell ⟨d, 6, none⟩ (.bool b)).setCell ⟨d, 7, none⟩ (.int .i64 n)) := by
  subst hb
  obtain ⟨⟨ms, md, vc, rc, Sf, hm, hS1, hS2, hS3⟩, hc⟩ := h
  have hg := grow_trans (grow_set w1 d 6 (.bool (decide (0 ≤ n)))) (grow_set (w1.setCell ⟨d, 6, none⟩ (.bool (decide (0 ≤ n)))) d 7 (.int .i64 n)) (.inl rfl)
  have hcl := dset (dset hm.cells 6 (.bool (decide (0 ≤ n)))) 7 (.int .i64 n)
  have hsz : ((w1.setCell ⟨d, 6, none⟩ (.bool (decide (0 ≤ n)))).setCell ⟨d, 7, none⟩ (.int .i64 n)).heap.size = w1.heap.size := by simp
  generalize (w1.setCell ⟨d, 6, none⟩ (.bool (decide (0 ≤ n)))).setCell ⟨d, 7, none⟩ (.int .i64 n) = W at *
  have keep : ∀ x, x < w1.heap.size → x ≠ d → W.heap[x]? = w1.heap[x]? := fun x hx h1 => hg.block x hx (by simpa using h1)
  have hE : ∀ x, Ext S w w1 x → Ext S w W x := fun x hx => by
    rcases hx with hx | hx
    · exact .inl hx
    · exact .inr ⟨hx.1, by omega⟩
  have hdS : S d ∨ w.heap.size ≤ d := by
    rcases hS1 d (.inl rfl) with h | h
    · exact .inl h
    · exact .inr h.1
  refine ⟨⟨ms, md, vc, rc, Sf, ⟨hcl, hm.seen.of_block (fun b e => keep b (hm.seen.rlt b e) (hm.sepS b e).1), hm.dur.of_block (fun b e => keep b (hm.dur.rlt b e) (hm.sepD b e).1), hm.chg.of_block hg.size (fun b e => keep b (hm.chg.rlt b e) (hm.sepC b e)), fun G hG => (hm.files G hG).frame hg.size (fun x hx => keep x ((hm.files G hG).live x hx) (hm.sepF G hG x hx).1), hm.sepS, hm.sepD, hm.sepC, hm.sepF, hm.sepFF⟩, fun x hx => hE x (hS1 x hx), fun G x hG hx => hE x (hS2 G x hG hx), fun x hx => ?_⟩, hc.grown hg (fun g e => by simp at e; subst e; exact hdS)⟩
  rcases hx with hx | hx
  · have := hS3 x (.inl hx); omega
  · exact hx.2
theorem fuseOf {S : Nat → Prop} {w w1 : World} {d : Nat} {k : Dk} (h : St S w d k w1) (n : Int) (hq1 : -9223372036854775808 ≤ n) (hq2 : n ≤ 9223372036854775807) : Calls Tryz.prog 18 #[.pointer (some ⟨d, 0, none⟩), .int .i64 n] w1 fun e w' => e = .returned (.tuple #[]) ∧ St S w d (fuseK k n) w' := by
  have HS : Hid (St S w d k w1) := h
  have HW : Hid (∀ b, b = decide (0 ≤ n) → St S w d (k.fuses n) ((w1.setCell ⟨d, 6, none⟩ (.bool b)).setCell ⟨d, 7, none⟩ (.int .i64 n))) := fun b hb => fuseSt h n b hb
  obtain ⟨ms, md, vc, rc, Sf, hm⟩ := h.at
  obtain ⟨⟨_, _, _, _, _, _, c6, c7, c8⟩, ⟨_, _, _, _, _, _, z6, z7, z8⟩⟩ := dcells hm.cells
  clear hm h
  cases hb : k.dead with
  | true =>
    have HE : Hid (fuseK k n = k) := by unfold Hid fuseK; rw [hb]; rfl
    rw [HE.out]
    rw [hb] at c8
    clear hb
    go_enter Tryz.func18, Tryz.ntmps18
    go_wp2
    (try simp only [Exit.inBlock, Exit.then])
    refine bodyPost_ret (results_none rfl _ _ _) rfl ?_
    exact ⟨rfl, HS.out⟩
  | false =>
    have HE : Hid (fuseK k n = k.fuses n) := by unfold Hid fuseK; rw [hb]; rfl
    rw [HE.out]
    rw [hb] at c8
    clear hb
    go_enter Tryz.func18, Tryz.ntmps18
    go_wp2
    go_end0
    exact ⟨rfl, HW.out _ (by simp)⟩
end Go.Proofs.YthcnhjmkcekdaaaGreat

namespace Go.Proofs.YthcnhjmkcekdaaaGreat
open Go.RowKit Go.Maps Plain
set_option linter.unusedVariables false
set_option linter.unusedSimpArgs false
theorem chK_dok {k : Dk} {n G : Nat} {kd m : Int} {nm to : ByteArray} {l : List Nat} (h : k.Dok n) (hu : k.Uok) (hs : nm.size ≤ maxLen) (ht : to.size ≤ maxLen) (hn : n ≤ 4398046511102) : (chK k kd nm to m l G).2.Dok (n + 1) := by
  unfold chK
  split
  · exact create_dok h hs hn
  · split
    · exact append_dok h hu hn
    · split
      · exact trunc_dok h hn
      · split
        · exact sync_dok h
        · split
          · exact syncDir_dok h
          · split
            · exact rename_dok h hs ht hn
            · exact remove_dok h hs hn
theorem chK_sum {k : Dk} {G : Nat} {kd m : Int} {nm to : ByteArray} {l : List Nat} (h : k.Sum) (hl : ∀ p ∈ k.L, k.live p.2) (hG : ¬ k.live G) : (chK k kd nm to m l G).2.Sum := by
  unfold chK
  split
  · exact create_sum h hl hG
  · split
    · exact append_sum h
    · split
      · exact trunc_sum h
      · split
        · exact sync_sum h
        · split
          · exact syncDir_sum h
          · split
            · exact rename_sum h
            · exact remove_sum h
/-- A disk whose power is on, and stays on. -/
structure Dk.On (k : Dk) : Prop where
  dead : k.dead = false
  fused : k.fused = false
theorem Dk.On.can {k : Dk} (h : k.On) : k.can = true := by unfold Dk.can spd; rw [h.fused]; rfl
theorem Dk.On.spent {k : Dk} (h : k.On) : k.spent.dead = false ∧ k.spent.fused = false := by
  refine ⟨?_, h.fused⟩
  show (spd k.ops k.fused k.left k.dead).2.2.2 = false
  unfold spd
  rw [h.fused, h.dead]; rfl
theorem Dk.On.chK {k : Dk} {G : Nat} {kd m : Int} {nm to : ByteArray} {l : List Nat} (h : k.On) : (chK k kd nm to m l G).2.On ∧ (Go.Proofs.YthcnhjmkcekdaaaGreat.chK k kd nm to m l G).2.quota = k.quota := by
  have h1 := h.spent.1
  have h2 := h.spent.2
  unfold Go.Proofs.YthcnhjmkcekdaaaGreat.chK createK appendK truncK syncK syncDirK renameK removeK
  repeat' split
  all_goals exact ⟨⟨by first | exact h.dead | exact h1, by first | exact h.fused | exact h2⟩, rfl⟩
end Go.Proofs.YthcnhjmkcekdaaaGreat

namespace Go.Proofs.YthcnhjmkcekdaaaGreat
open Go.RowKit Go.Maps Plain
set_option linter.unusedVariables false
set_option linter.unusedSimpArgs false
def nmF : ByteArray := ⟨#[102, 105, 114, 115, 116]⟩
def kF : Nm := [102, 105, 114, 115, 116]
def e1 (q : Int) (G : Nat) : Dk := ⟨[(kF, G)], [], [DC.mk kF G], 0, q, 1, false, 0, false, upd F0 G ⟨[], [], []⟩, lv1 G⟩
def e2 (q : Int) (G : Nat) : Dk := ⟨[(kF, G)], [], [DC.mk kF G], 1, q, 2, false, 0, false, upd (upd F0 G ⟨[], [], []⟩) G ⟨[7], [], [FC.add [7]]⟩, lv1 G⟩
theorem x1 (q : Int) (G : Nat) : createK (Dk.fresh q) nmF G = (0, e1 q G) := by rfl
theorem x2 (q : Int) (G : Nat) (h : 1 ≤ q) : appendK (e1 q G) nmF [7] = (0, e2 q G) := by
  have a1 : (fnd (e1 q G).dead (e1 q G).L nmF).2 = 0 := by rfl
  have a2 : look (e1 q G).L nmF.data.toList = some G := by rfl
  have a3 : (e1 q G).file G = ⟨[], [], []⟩ := upd_same _ _ _
  have a4 : (e1 q G).can = true := by rfl
  unfold appendK
  rw [if_pos a1, if_neg (by show ¬ (0 < 1 ∧ q - 0 < ((1 : Nat) : Int)); omega), a2]
  simp only [a3, a4, if_true, Fl.add]
  rfl
theorem x3 (G : Nat) : appendK (e1 0 G) nmF [7] = (33, e1 0 G) := by
  have a1 : (fnd (e1 0 G).dead (e1 0 G).L nmF).2 = 0 := by rfl
  unfold appendK
  rw [if_pos a1, if_pos (by show (0 < 1 ∧ (0 : Int) - 0 < ((1 : Nat) : Int)); omega)]
theorem Dk.Ok.mono {k : Dk} {n m : Nat} (h : k.Ok n) (hm : n ≤ m) : k.Ok m := ⟨h.refs, fun G hG => ⟨(h.fok G hG).1, Nat.le_trans (h.fok G hG).2 hm⟩, ⟨h.ops.1, by have := h.ops.2; omega⟩, h.fuse⟩
theorem Dk.Dok.mono {k : Dk} {n m : Nat} (h : k.Dok n) (hm : n ≤ m) : k.Dok m := ⟨h.ok.mono hm, h.dir, h.eq, Nat.le_trans h.cnt hm, h.few⟩
theorem newBad (q : Int) (hq1 : I64 q) (hq : qB q = false) (w : World) : Calls Tryz.prog 5 #[.int .i64 q] w fun e w' => e = .returned (.tuple #[.pointer none, .int .i64 3]) ∧ w' = w := by
  have HL : Hid (Calls Tryz.prog 10 #[.slice none 0 0, .int .i64 q] w fun e w' => e = .returned (.tuple #[.pointer none, .int .i64 3]) ∧ w' = w) := by
    refine (loadNil q hq1.1 hq1.2 w).mono ?_
    rintro e w' (⟨_, rfl, rfl⟩ | ⟨h, _⟩)
    · exact ⟨rfl, rfl⟩
    · rw [hq] at h; simp at h
  go_enter Tryz.func5, Tryz.ntmps5
  go_wp2_with fail
  refine HL.out.mono ?_
  rintro e w1 ⟨rfl, rfl⟩
  go_wp2
  go_ret2
  exact ⟨rfl, rfl⟩
end Go.Proofs.YthcnhjmkcekdaaaGreat

namespace Go.Proofs.YthcnhjmkcekdaaaGreat
open Go.RowKit Go.Deep Go.ChangeShapes Go.WideShapes Go.ChangeAt Go.Maps Plain
set_option linter.unusedVariables false
set_option linter.unusedSimpArgs false
set_option linter.constructorNameAsVariable false
structure Sp where
  kd : Int
  nm : ByteArray
  to : ByteArray
  at' : Int
  n : Int
  vb : Value
  vp : Value
  data : List Nat
def Sp.none : Sp := ⟨0, ByteArray.empty, ByteArray.empty, 0, 0, .slice Option.none 0 0, .slice Option.none 0 0, []⟩
structure Sp.Ok (s : Sp) : Prop where
  kd : I64 s.kd
  n : I64 s.n
  nm : s.nm.size ≤ maxLen
  to : s.to.size ≤ maxLen
  data : s.data.length ≤ 140737488351232
  vp : ∃ a m c, s.vp = .slice a m c
  at_ : I64 s.at'
structure SpAt (w : World) (b o : Nat) (s : Sp) : Prop where
  c0 : w.cell? ⟨b, o, none⟩ = some (.int .i64 s.kd)
  c1 : w.cell? ⟨b, o + 1, none⟩ = some (.string s.nm)
  c2 : w.cell? ⟨b, o + 2, none⟩ = some (.string s.to)
  c3 : w.cell? ⟨b, o + 3, none⟩ = some (.int .i64 s.at')
  c4 : w.cell? ⟨b, o + 4, none⟩ = some (.int .i64 s.n)
  c5 : w.cell? ⟨b, o + 5, none⟩ = some s.vb
  c6 : w.cell? ⟨b, o + 6, none⟩ = some s.vp
  row : BytesAt w s.vb s.data
theorem SpAt.later {w w' : World} {b o : Nat} {s : Sp} (h : SpAt w b o s) (hb : Below w.heap.size w w') : SpAt w' b o s :=
  ⟨by rw [hb.cell (cell_lt h.c0)]; exact h.c0, by rw [hb.cell (cell_lt h.c1)]; exact h.c1, by rw [hb.cell (cell_lt h.c2)]; exact h.c2, by rw [hb.cell (cell_lt h.c3)]; exact h.c3, by rw [hb.cell (cell_lt h.c4)]; exact h.c4, by rw [hb.cell (cell_lt h.c5)]; exact h.c5, by rw [hb.cell (cell_lt h.c6)]; exact h.c6, h.row.later hb⟩
/-- v is a slice of steps that reads as st. -/
def ScrAt (w : World) (v : Value) (st : List Sp) : Prop :=
  ∃ a cap, v = .slice a st.length cap ∧ st.length ≤ cap ∧ cap ≤ maxLen ∧ st.length ≤ 1400000000000 ∧ (∀ s ∈ st, s.Ok) ∧ (st ≠ [] → ∃ b off, a = some ⟨b, off, none⟩ ∧ ∀ j, j < st.length → SpAt w b (off + j * 7) (st.getD j Sp.none))
theorem cells_step : Tryz.prog.cellsOf 37 = 7 := by kernel_rfl
theorem cells_3 : Tryz.prog.cellsOf 3 = 1 := by kernel_rfl
theorem cells_9 : Tryz.prog.cellsOf 9 = 1 := by kernel_rfl
theorem cells_B : Tryz.prog.cellsOf 34 = 1 := by kernel_rfl
theorem cells_I : Tryz.prog.cellsOf 35 = 1 := by kernel_rfl
theorem cells_u8 : Tryz.prog.cellsOf 5 = 1 := by kernel_rfl
theorem bytes_step : Tryz.prog.bytesOf 37 = 104 := by kernel_rfl
theorem bytes_u8 : Tryz.prog.bytesOf 5 = 1 := by kernel_rfl
theorem weights_agg {H : Type} {P : Program} {t t' : TypeId} {fs : Array Field} {parts : List (DataW H)} {d : DataW H} {j : Nat} (hu : P.underlying t = some (.struct fs)) (ht : (fs.toList.map (·.type))[j]? = some t') (hd : parts[j]? = some d) : ∀ n ∈ d.weights P t', n ∈ (DataW.agg parts).weights P t := fun n hn => by
  simp only [DataW.weights, hu]
  exact DataW.weights_mem_each ht hd n hn
theorem weights_all {H : Type} {P : Program} {e : TypeId} : ∀ {ds : List (DataW H)} {d : DataW H}, d ∈ ds → ∀ n ∈ d.weights P e, n ∈ DataW.weightsAll P e ds
  | [], d, h, _, _ => by simp at h
  | x :: ds, d, h, n, hn => by
    simp only [DataW.weightsAll, List.mem_append]
    rcases List.mem_cons.mp h with rfl | h
    · exact .inl hn
    · exact .inr (weights_all h n hn)
theorem weights_slice {H : Type} {P : Program} {t e : TypeId} {el sp : List (DataW H)} (hu : P.underlying t = some (.slice e)) : (el.length + sp.length) * P.bytesOf e ∈ (DataW.slice el sp).weights P t := by simp [DataW.weights, hu]
theorem weights_elem {H : Type} {P : Program} {t e : TypeId} {el sp : List (DataW H)} (hu : P.underlying t = some (.slice e)) {d : DataW H} (hd : d ∈ el) : ∀ n ∈ d.weights P e, n ∈ (DataW.slice el sp).weights P t := fun n hn => by
  simp only [DataW.weights, hu, List.mem_cons, List.mem_append]
  exact .inr (.inl (weights_all hd n hn))
theorem wfI {z : Int} (h : (Lit.int .i64 z).wf = true) : I64 z := by
  have := bounds_i64 h
  unfold I64
  omega
set_option maxRecDepth 100000 in
theorem open_sp {H : Type} {enc : TypeId × Value → H} {W : World} {n : Nat} {a : Addr} {i : Nat} {x : DataW H × List MemPlace} {cs' : List Value} (h1 : W.cells? 0 (a.add (i * Tryz.prog.cellsOf 37)) (Tryz.prog.cellsOf 37) = some cs')
    (h2 : DataW.trod enc Tryz.prog W 0 (fun _ => true) true n 37 cs' = some x) (hsz : ∀ m ∈ x.1.weights Tryz.prog 37, m ≤ reachBytes) :
    ∃ s : Sp, s.Ok ∧ BytesAt W s.vb s.data ∧ W.cell? ((a.add (i * 7)).add 0) = some (.int .i64 s.kd) ∧ W.cell? ((a.add (i * 7)).add 1) = some (.string s.nm) ∧ W.cell? ((a.add (i * 7)).add 2) = some (.string s.to) ∧ W.cell? ((a.add (i * 7)).add 3) = some (.int .i64 s.at') ∧
      W.cell? ((a.add (i * 7)).add 4) = some (.int .i64 s.n) ∧ W.cell? ((a.add (i * 7)).add 5) = some s.vb ∧ W.cell? ((a.add (i * 7)).add 6) = some s.vp := by
  rw [cells_step] at h1
  obtain ⟨_, hlen0, hcell⟩ := World.cells?_some h1
  obtain ⟨xs, m, _, hx, hl, hlen, hf⟩ := DataW.trod_struct Tryz.underlying37 h2
  rw [cells_step] at hl
  have hlen : xs.length = 7 := hlen
  match cs', hl with
  | [v0, v1, v2, v3, v4, v5, v6], _ =>
    match xs, hlen with
    | [y0, y1, y2, y3, y4, y5, y6], _ =>
      have k0 : DataW.trod enc Tryz.prog W 0 (fun _ => true) true m 3 [v0] = some y0 := by simpa [cells_3] using hf 0 _ rfl
      have k1 : DataW.trod enc Tryz.prog W 0 (fun _ => true) true m 9 [v1] = some y1 := by simpa [cells_9] using hf 1 _ rfl
      have k2 : DataW.trod enc Tryz.prog W 0 (fun _ => true) true m 9 [v2] = some y2 := by simpa [cells_9] using hf 2 _ rfl
      have k3 : DataW.trod enc Tryz.prog W 0 (fun _ => true) true m 3 [v3] = some y3 := by simpa [cells_3] using hf 3 _ rfl
      have k4 : DataW.trod enc Tryz.prog W 0 (fun _ => true) true m 3 [v4] = some y4 := by simpa [cells_3] using hf 4 _ rfl
      have k5 : DataW.trod enc Tryz.prog W 0 (fun _ => true) true m 34 [v5] = some y5 := by simpa [cells_B] using hf 5 _ rfl
      have k6 : DataW.trod enc Tryz.prog W 0 (fun _ => true) true m 35 [v6] = some y6 := by simpa [cells_I] using hf 6 _ rfl
      have hv6 : ∃ a m c, v6 = .slice a m c := by
        rcases open_ints Tryz.underlying35 Tryz.underlying3 cells_3 k6 with ⟨hcs, _⟩ | ⟨x0, l, c, zs, hcs, _⟩
        · simp at hcs; exact ⟨_, _, _, hcs⟩
        · simp at hcs; exact ⟨_, _, _, hcs⟩
      obtain ⟨n0, a0, _, w0⟩ := DataW.trod_int Tryz.underlying3 k0
      obtain ⟨s1, a1, _, w1⟩ := DataW.trod_string Tryz.underlying9 k1
      obtain ⟨s2, a2, _, w2⟩ := DataW.trod_string Tryz.underlying9 k2
      obtain ⟨n3, a3, _, w3⟩ := DataW.trod_int Tryz.underlying3 k3
      obtain ⟨n4, a4, _, w4⟩ := DataW.trod_int Tryz.underlying3 k4
      simp only [List.cons.injEq, and_true] at a0 a1 a2 a3 a4
      subst a0 a1 a2 a3 a4
      obtain ⟨l, hB, hll⟩ : ∃ l : List Nat, BytesAt W v5 l ∧ l.length ≤ 140737488351232 := by
        rcases open_ints Tryz.underlying34 Tryz.underlying5 cells_u8 k5 with ⟨hcs, _⟩ | ⟨x0, l, c, zs, hcs, _, hl0, hm0, hz, hx0, hcell0, hwz⟩
        · simp at hcs
          subst hcs
          exact ⟨[], BytesAt.nil W, by simp⟩
        · simp at hcs
          subst hcs
          simp only [if_true] at hz
          obtain ⟨l', g1, g2⟩ := bytes_of_row (w := W) (a := some x0) (len := l) (cap := c) (zs := zs) (.inr ⟨x0, rfl, hl0, hm0, hz, hcell0, hwz⟩)
          refine ⟨l', g2, ?_⟩
          have hw : ((lits (H := H) .u8 (zs.take l)).length + (lits (H := H) .u8 (zs.drop l)).length) * Tryz.prog.bytesOf 5 ≤ reachBytes := by
            refine hsz _ ?_
            rw [hx]
            refine weights_agg (t' := 34) (d := y5.1) (j := 5) Tryz.underlying37 rfl rfl _ ?_
            rw [hx0]
            exact weights_slice Tryz.underlying34
          rw [bytes_u8] at hw
          simp only [lits, List.length_map, List.length_take, List.length_drop, reachBytes] at hw
          omega
      exact ⟨⟨n0, s1, s2, n3, n4, v5, v6, l⟩, ⟨wfI w0, wfI w4, w1, w2, hll, hv6, wfI w3⟩, hB, by simpa using hcell 0 (by omega), by simpa using hcell 1 (by omega), by simpa using hcell 2 (by omega), by simpa using hcell 3 (by omega), by simpa using hcell 4 (by omega), by simpa using hcell 5 (by omega), by simpa using hcell 6 (by omega)⟩
theorem open_script {H : Type} {enc : TypeId × Value → H} {W : World} {fuel : Nat} {v : Value} {x : DataW H × List MemPlace} (h : DataW.trod enc Tryz.prog W 0 (fun _ => true) true fuel 22 [v] = some x)
    (hsz : ∀ m ∈ x.1.weights Tryz.prog 22, m ≤ reachBytes) : ∃ st : List Sp, ScrAt W v st := by
  rcases open_slice Tryz.underlying22 h with ⟨hcs, hx⟩ | ⟨a, len, cap, m, n, D, Pl, hcs, hb, hl, hm, hmm, hx, hel⟩
  · simp at hcs
    subst hcs
    exact ⟨[], none, 0, rfl, by simp, by simp, by simp, by simp, by simp⟩
  · simp at hcs
    subst hcs
    simp only [if_true] at hmm
    subst hmm
    have each : ∀ i, i < len → ∃ s : Sp, s.Ok ∧ BytesAt W s.vb s.data ∧ W.cell? ((a.add (i * 7)).add 0) = some (.int .i64 s.kd) ∧ W.cell? ((a.add (i * 7)).add 1) = some (.string s.nm) ∧ W.cell? ((a.add (i * 7)).add 2) = some (.string s.to) ∧ W.cell? ((a.add (i * 7)).add 3) = some (.int .i64 s.at') ∧
      W.cell? ((a.add (i * 7)).add 4) = some (.int .i64 s.n) ∧ W.cell? ((a.add (i * 7)).add 5) = some s.vb ∧ W.cell? ((a.add (i * 7)).add 6) = some s.vp := by
      intro i hi
      obtain ⟨cs', h1, h2⟩ := hel i (by omega)
      refine open_sp h1 h2 (fun q hq => hsz q ?_)
      rw [hx]
      exact weights_elem Tryz.underlying22 (List.mem_map.mpr ⟨i, List.mem_range.mpr hi, rfl⟩) q hq
    have iT : Inhabited Sp := ⟨Sp.none⟩
    obtain ⟨q, hq⟩ := choose_lt each
    have hbig : len ≤ 1400000000000 := by
      have := hsz _ (by rw [hx]; exact weights_slice Tryz.underlying22)
      rw [bytes_step] at this
      simp [reachBytes] at this
      omega
    have hlenq : ((List.range len).map q).length = len := by simp
    refine ⟨(List.range len).map q, some a, m, by rw [hlenq], by rw [hlenq]; exact hl, hm, by rw [hlenq]; exact hbig, ?_, ?_⟩
    · intro t ht
      obtain ⟨i, hi, rfl⟩ := List.mem_map.mp ht
      exact (hq i (List.mem_range.mp hi)).1
    · intro hne
      have hlen : 0 < len := by
        rcases Nat.eq_zero_or_pos len with rfl | h
        · simp at hne
        · exact h
      obtain ⟨b, off, spot⟩ := a
      have hspot : spot = none := by
        have := World.cell?_spot (hq 0 hlen).2.2.1
        simpa [Addr.add] using this
      subst hspot
      refine ⟨b, off, rfl, fun k hk => ?_⟩
      have hk' : k < len := by simpa using hk
      obtain ⟨_, hB, c0, c1, c2, c3, c4, c5, c6⟩ := hq k hk'
      rw [WideShapes.add_plain, WideShapes.add_plain] at c0 c1 c2 c3 c4 c5 c6
      have e : ((List.range len).map q).getD k Sp.none = q k := by simp [hk']
      rw [e]
      exact ⟨c0, c1, c2, c3, c4, c5, c6, hB⟩
theorem Dsk.ofSt {W w1 w2 : World} {d : Nat} {k : Dk} {S : Nat → Prop} (h1 : Below W.heap.size W w1) (h3 : ∀ x, S x → W.heap.size ≤ x) (h : St S w1 d k w2) : Dsk W d k w2 := by
  refine ⟨h1.trans (h.2.below h1.size h3), _, h.1, fun x hx => ?_⟩
  rcases hx with hx | hx
  · exact h3 x hx
  · have := h1.size; omega
theorem imK_len {k : Dk} {n : Nat} (h : k.Dok n) : (imK k).length ≤ 65536 := by
  unfold imK
  rw [imgL_len, nms_len]
  exact h.few
/-- What a disk keeps in a law with one disk that stays on. -/
structure Dk.Good (k : Dk) (n : Nat) : Prop where
  dok : k.Dok n
  sum : k.Sum
  on : k.On
theorem Dk.Good.chK {k : Dk} {n G : Nat} {kd m : Int} {nm to : ByteArray} {l : List Nat} (h : k.Good n) (hs : nm.size ≤ maxLen) (ht : to.size ≤ maxLen) (hn : n ≤ 4398046511102) (hG : ¬ k.live G) : (chK k kd nm to m l G).2.Good (n + 1) :=
  ⟨chK_dok h.dok h.sum.uok hs ht hn, chK_sum h.sum h.dok.ok.refs hG, h.on.chK.1⟩
theorem Dk.Good.quotas {k : Dk} {n : Nat} {q : Int} (h : k.Good n) (hq : qB q = true) : (k.quotas q).Good n := by
  have hq' : 0 ≤ q ∧ q ≤ 1073741824 := by simpa [qB] using hq
  obtain ⟨⟨⟨a1, a2, a3, a4⟩, b2, b3, b4, b5⟩, ⟨c1, c2, c3, c4, c5⟩, ⟨d1, d2⟩⟩ := h
  exact ⟨⟨⟨a1, a2, a3, a4⟩, b2, b3, b4, b5⟩, ⟨c1, c2, c3, hq', c5⟩, ⟨d1, d2⟩⟩
theorem Dk.Good.mono {k : Dk} {n m : Nat} (h : k.Good n) (hm : n ≤ m) : k.Good m := ⟨h.dok.mono hm, h.sum, h.on⟩
end Go.Proofs.YthcnhjmkcekdaaaGreat
