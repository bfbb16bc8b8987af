import Derived.Test.YthcnhjmkcekdaaaGreatQs02
namespace Go.Proofs.YthcnhjmkcekdaaaGreat
open Go.RowKit Go.Maps Plain
set_option linter.unusedVariables false
set_option linter.unusedSimpArgs false
theorem getElem?_snoc {α : Type} (l : List α) (x : α) (j : Nat) : (l ++ [x])[j]? = if j = l.length then some x else l[j]? := by
  by_cases h : j = l.length
  · subst h; simp
  · rw [if_neg h]
    by_cases h2 : j < l.length
    · rw [List.getElem?_append_left h2]
    · rw [List.getElem?_eq_none (by simp; omega), List.getElem?_eq_none (by omega)]
theorem doneF {w w1 w4 : World} {G : Nat} {f : Fl} {S : Nat → Prop} {vs vd vc v1 v4 : Value} {rs rd rc r1 : Option Nat} {vals : List Value} {blk : Nat → Option Nat} (hm : FileM w G f vs vd vc rs rd rc vals blk) (hS : ∀ k, footF G rs rd rc blk k → S k) (hlt : ∀ k, S k → k < w.heap.size)
    {s' : List Nat} (ho1 : Own w1 v1 s' r1) (hg1 : w.grownBy w1 rs) (hr1 : r1 = rs ∨ ∃ g, r1 = some g ∧ w.heap.size ≤ g) (c : FC) (x : Value) (q : Option Nat) (hq : ChOne w c x q) (hqS : ∀ g, q = some g → ¬ S g ∧ g < w.heap.size) (o : Obj) {g4 : Nat}
    (ho4 : OwnV w4 v4 (vals ++ [x]) (some g4)) (hg4 : ((w1.setCell ⟨G, 0, none⟩ v1).alloc o).grownBy w4 rc) (hr4 : some g4 = rc ∨ g4 = w1.heap.size + 1) :
    FileAt (w4.setCell ⟨G, 2, none⟩ v4) G ⟨s', f.dur, f.chg ++ [c]⟩ (fun k => Ext S w (w4.setCell ⟨G, 2, none⟩ v4) k ∨ q = some k) ∧ Chg S w (w4.setCell ⟨G, 2, none⟩ v4) := by
  have hGlt : G < w.heap.size := hlt G (hS G (.inl rfl))
  have hSs : ∀ g, rs = some g → S g := fun g e => hS g (.inr (.inl e))
  have hSd : ∀ g, rd = some g → S g := fun g e => hS g (.inr (.inr (.inl e)))
  have hSc : ∀ g, rc = some g → S g := fun g e => hS g (.inr (.inr (.inr (.inl e))))
  have hSb : ∀ j g, blk j = some g → S g := fun j g e => hS g (.inr (.inr (.inr (.inr ⟨j, e⟩))))
  have hsz1 : w.heap.size ≤ w1.heap.size := hg1.size
  have hsz4 : w1.heap.size + 1 ≤ w4.heap.size := by have := hg4.size; simpa using this
  have hszW : (w4.setCell ⟨G, 2, none⟩ v4).heap.size = w4.heap.size := by simp
  have hrsG : some G ≠ rs := fun e => (hm.sepS G e.symm).1 rfl
  have hrcG : some G ≠ rc := fun e => (hm.sepC G e.symm).1 rfl
  have hb1 : w1.heap[G]? = some (.cells #[vs, vd, vc] 124) := (hg1.block G hGlt hrsG).trans hm.blkG
  have hb2 := (fset hb1 v1).1
  have hb4 : w4.heap[G]? = some (.cells #[v1, vd, vc] 124) := (hg4.block G (by simp; omega) hrcG).trans ((heap_alloc_old _ _ (by simp; omega)).trans hb2)
  have hbW := (fset hb4 v4).2.2
  have g3 : w1.grownBy ((w1.setCell ⟨G, 0, none⟩ v1).alloc o) (some G) := grow_trans (grow_set w1 G 0 v1) (World.grownBy_alloc _ _ none) (.inr (.inl rfl))
  have g5 := grow_set w4 G 2 v4
  have keep1 : ∀ k, k < w1.heap.size → k ≠ G → rc ≠ some k → (w4.setCell ⟨G, 2, none⟩ v4).heap[k]? = w1.heap[k]? := fun k hk h1 h2 => by
    rw [g5.block k (by omega) (by simpa using h1), hg4.block k (by have := g3.size; omega) (Ne.symm h2), g3.block k hk (by simpa using h1)]
  have keep : ∀ k, k < w.heap.size → k ≠ G → rs ≠ some k → rc ≠ some k → (w4.setCell ⟨G, 2, none⟩ v4).heap[k]? = w.heap[k]? := fun k hk h1 h2 h3 => by
    rw [keep1 k (by omega) h1 h3, hg1.block k hk (Ne.symm h2)]
  have hchg : Chg S w (w4.setCell ⟨G, 2, none⟩ v4) := by
    refine (((Chg.refl S w).grown hg1 (fun g e => .inl (hSs g e))).grown g3 ?_ |>.grown hg4 (fun g e => .inl (hSc g e))).grown g5 ?_
    · intro g e; simp at e; subst e; exact .inl (hS _ (.inl rfl))
    · intro g e; simp at e; subst e; exact .inl (hS _ (.inl rfl))
  have hrcl : ∀ g, rc = some g → g < w.heap.size := fun g e => hlt g (hSc g e)
  have hrdl : ∀ g, rd = some g → g < w.heap.size := fun g e => hlt g (hSd g e)
  have hbkl : ∀ j g, blk j = some g → g < w.heap.size := fun j g e => hlt g (hSb j g e)
  have hr1l : ∀ g, r1 = some g → g < w1.heap.size := ho1.rlt
  have hr1G : ∀ g, r1 = some g → g ≠ G ∧ rc ≠ some g := fun g e => by
    rcases hr1 with h | ⟨g', h, h2⟩
    · rw [h] at e; exact ⟨(hm.sepS g e).1, (hm.sepS g e).2.2.1⟩
    · rw [h] at e; simp at e; subst e
      exact ⟨by omega, fun e2 => by have := hrcl _ e2; omega⟩
  have hg4G : g4 ≠ G := by
    rcases hr4 with h | h
    · exact (hm.sepC g4 h.symm).1
    · omega
  refine ⟨⟨v1, vd, v4, r1, rd, some g4, vals ++ [x], fun j => if j = f.chg.length then q else blk j, ⟨hbW, ?_, ?_, ?_, ?_, ?_, ?_, ?_⟩, ?_, ?_⟩, hchg⟩
  · exact ho1.of_block (by omega) (fun g e => keep1 g (hr1l g e) (hr1G g e).1 (hr1G g e).2)
  · exact hm.dur.of_block (by omega) (fun g e => keep g (hrdl g e) (hm.sepD g e).1 (fun e2 => (hm.sepS g e2).2.1 e) (hm.sepD g e).2.1)
  · refine ⟨ho4.of_block (by omega) (fun g e => ?_), by simp [hm.chg.len], fun j c' hc' => ?_, fun j g e => ?_⟩
    · simp at e; subst e
      exact g5.block _ ho4.lt (by simp; exact hg4G)
    · rw [getElem?_snoc] at hc'
      rw [getElem?_snoc, hm.chg.len]
      by_cases hj : j = f.chg.length
      · rw [if_pos hj] at hc' ⊢
        simp at hc'; subst hc'
        rw [if_pos hj]
        refine ⟨x, rfl, hq.of_block (by omega) (fun g e => keep g (hqS g e).2 ?_ ?_ ?_)⟩
        · rintro rfl; exact (hqS _ e).1 (hS _ (.inl rfl))
        · exact fun e2 => (hqS g e).1 (hSs g e2)
        · exact fun e2 => (hqS g e).1 (hSc g e2)
      · rw [if_neg hj] at hc' ⊢
        rw [if_neg hj]
        obtain ⟨y, h1, h2⟩ := hm.chg.one j c' hc'
        exact ⟨y, h1, h2.of_block (by omega) (fun g e => keep g (hbkl j g e) (hm.sepB j g e) (fun e2 => (hm.sepS g e2).2.2.2 j e) (fun e2 => (hm.sepC g e2).2 j e))⟩
    · split at e
      · have := (hqS g e).2; omega
      · have := hbkl j g e; omega
  · intro g e
    refine ⟨(hr1G g e).1, fun e2 => ?_, fun e2 => ?_, fun j e2 => ?_⟩
    · rcases hr1 with h | ⟨g', h, h2⟩
      · rw [h] at e; exact (hm.sepS g e).2.1 e2
      · rw [h] at e; simp at e; subst e; have := hrdl _ e2; omega
    · simp at e2; subst e2
      rcases hr4 with h | h
      · exact (hr1G _ e).2 h.symm
      · have := hr1l _ e; omega
    · split at e2
      · rcases hr1 with h | ⟨g', h, h2⟩
        · rw [h] at e; exact (hqS g e2).1 (hSs g e)
        · rw [h] at e; simp at e; subst e; have := (hqS _ e2).2; omega
      · rcases hr1 with h | ⟨g', h, h2⟩
        · rw [h] at e; exact (hm.sepS g e).2.2.2 j e2
        · rw [h] at e; simp at e; subst e; have := hbkl j _ e2; omega
  · intro g e
    refine ⟨(hm.sepD g e).1, fun e2 => ?_, fun j e2 => ?_⟩
    · simp at e2; subst e2
      rcases hr4 with h | h
      · exact (hm.sepD _ e).2.1 h.symm
      · have := hrdl _ e; omega
    · split at e2
      · exact (hqS g e2).1 (hSd g e)
      · exact (hm.sepD g e).2.2 j e2
  · intro g e
    simp at e; subst e
    refine ⟨hg4G, fun j e2 => ?_⟩
    split at e2
    · rcases hr4 with h | h
      · exact (hqS _ e2).1 (hSc _ h.symm)
      · have := (hqS _ e2).2; omega
    · rcases hr4 with h | h
      · exact (hm.sepC _ h.symm).2 j e2
      · have := hbkl j _ e2; omega
  · intro j g e
    split at e
    · rintro rfl; exact (hqS _ e).1 (hS _ (.inl rfl))
    · exact hm.sepB j g e
  · intro k hk
    rcases hk with rfl | hk | hk | hk | ⟨j, hk⟩
    · exact .inl (.inl (hS _ (.inl rfl)))
    · rcases hr1 with h | ⟨g', h, h2⟩
      · exact .inl (.inl (hSs _ (h.symm.trans hk)))
      · rw [h] at hk; simp at hk; subst hk
        exact .inl (.inr ⟨h2, by have := hr1l _ h; omega⟩)
    · exact .inl (.inl (hSd _ hk))
    · simp at hk; subst hk
      rcases hr4 with h | h
      · exact .inl (.inl (hSc _ h.symm))
      · exact .inl (.inr ⟨by omega, by have := ho4.lt; omega⟩)
    · simp only at hk
      split at hk
      · exact .inr hk
      · exact .inl (.inl (hSb _ _ hk))
  · intro k hk
    rcases hk with (hk | hk) | hk
    · have := hlt k hk; omega
    · exact hk.2
    · have := (hqS k hk).2; omega
theorem info_fc : ∃ i, Tryz.prog.info? 132 = some i ∧ i.zero = some .nilIface ∧ i.size = 1 ∧ i.bytes = 16 := by
  obtain ⟨i, h1, h2, h3, h4⟩ := info_parts (show (Tryz.prog.info? 132).map (fun i => (i.zero, i.size, i.bytes)) = some (some .nilIface, 1, 16) by kernel_rfl)
  exact ⟨i, h1, h2, h3, h4⟩
set_option maxHeartbeats 2000000 in
set_option maxRecDepth 1000000 in
theorem doAdd (w : World) (G : Nat) (f : Fl) (S : Nat → Prop) (ab : Option Addr) (nb cb : Nat) (b : List Nat) (q : Option Nat) (h : FileAt w G f S) (hf : f.Ok) (ho : Own w (.slice ab nb cb) b q) (hq : ∀ g, q = some g → ¬ S g) (hlen : f.seen.length + b.length ≤ 70368744177664) :
    Calls Tryz.prog 80 #[.pointer (some ⟨G, 0, none⟩), .iface 134 (.agg #[.slice ab nb cb])] w fun e w' => e = .returned (.tuple #[]) ∧ FileAt w' G ⟨f.seen ++ b, f.dur, f.chg ++ [FC.add b]⟩ (fun k => Ext S w w' k ∨ q = some k) ∧ Chg S w w' := by
  obtain ⟨vs, vd, vc, rs, rd, rc, vals, blk, hm, hS, hlt⟩ := h
  have HM : Hid (FileM w G f vs vd vc rs rd rc vals blk) := hm
  have HS : Hid (∀ k, footF G rs rd rc blk k → S k) := hS
  have HLT : Hid (∀ k, S k → k < w.heap.size) := hlt
  obtain ⟨c0, c1, c2, z0, z1, z2⟩ := fcells hm.blkG
  obtain ⟨sa, ns, cs, rfl⟩ := isSliceO hm.seen
  obtain ⟨ac, nc, cc, rfl⟩ := isSliceV hm.chg.row
  have HO : Hid (Own w (.slice ab nb cb) b q) := ho
  have HQ : Hid (∀ g, q = some g → ¬ S g ∧ g < w.heap.size) := fun g e => ⟨hq g e, ho.rlt g e⟩
  have hGlt : G < w.heap.size := hlt G (hS G (.inl rfl))
  have hGs : some G ≠ rs := fun e => (hm.sepS G e.symm).1 rfl
  have hGc : some G ≠ rc := fun e => (hm.sepC G e.symm).1 rfl
  have HCN : Hid (vals.length ≤ 4398046511104) := by have := hf.cnt; have := hm.chg.len; unfold Hid; omega
  obtain ⟨i, hi0, hi1, hi2, hi3⟩ := info_fc
  have HI : Hid (Tryz.prog.info? 132 = some i ∧ i.zero = some .nilIface ∧ i.size = 1 ∧ i.bytes = 16) := ⟨hi0, hi1, hi2, hi3⟩
  have hme := methAdd (.agg #[.slice ab nb cb]) w
  clear hm hS hlt hf ho hq hi0 hi1 hi2 hi3
  go_enter Tryz.func80, Tryz.ntmps80
  go_wp2_with fail
  refine (addOntoOf ab nb cb b _ f.seen rs w HO.out.bytes HM.out.seen (by omega)).mono ?_
  rintro e w1 ⟨a1, n1, c1', r1, rfl, ho1, hg1, hr1⟩
  have hb1 : w1.heap[G]? = some (.cells #[.slice sa ns cs, vd, .slice ac nc cc] 124) := (hg1.block G hGlt hGs).trans HM.out.blkG
  obtain ⟨d0, d1, d2, y0, y1, y2⟩ := fcells hb1
  have HO1 : Hid (Own w1 (.slice a1 n1 c1') (f.seen ++ b) r1) := ho1
  have HG1 : Hid (w.grownBy w1 rs) := hg1
  have HR1 : Hid (r1 = rs ∨ ∃ g, r1 = some g ∧ w.heap.size ≤ g) := hr1
  have HV1 : Hid (OwnV (w1.setCell ⟨G, 0, none⟩ (.slice a1 n1 c1')) (.slice ac nc cc) vals rc) := (HM.out.chg.row.kept hg1 (by
    cases rc with
    | none => exact .inl rfl
    | some g => exact .inr (fun e => (HM.out.sepS g e.symm).2.2.1 rfl))).kept (grow_set w1 G 0 _) (by
    cases rc with
    | none => exact .inl rfl
    | some g => exact .inr (fun e => hGc (by rw [e])))
  have hG1 : G < w1.heap.size := by have := hg1.size; omega
  clear ho1 hg1 hr1 hb1 c0 c1 c2 z0 z1 z2 hme
  go_wp2_with (at_builtin; refine wpList_append_val _ rfl _ _ 120 132 i .nilIface rfl Tryz.underlying120 HI.out.1 HI.out.2.1 rfl HI.out.2.2.1 (by rw [HI.out.2.2.2]; omega) _ _ (.iface 134 (.agg #[.slice ab nb cb])) vals rc rfl rfl ?hOwn ?hSrc ?hLen ?_)
  case hOwn => exact HV1.out.kept (World.grownBy_alloc _ _ none) (by cases rc <;> simp)
  case hSrc => exact src_val' _ _ (by simp) _ rfl 120 132 132 Tryz.underlying120
  case hLen => exact HCN.out
  intro v4 w4 g4 ho4 hg4 hr4
  have hb4 : w4.heap[G]? = some (.cells #[.slice a1 n1 c1', vd, .slice ac nc cc] 124) := (hg4.block G (by simp; omega) hGc).trans ((heap_alloc_old _ _ (by simp; omega)).trans (fset ((HG1.out.block G hGlt hGs).trans HM.out.blkG) _).1)
  obtain ⟨e0, e1, e2, x0, x1, x2⟩ := fcells hb4
  have HF : Hid (FileAt (w4.setCell ⟨G, 2, none⟩ v4) G ⟨f.seen ++ b, f.dur, f.chg ++ [FC.add b]⟩ (fun k => Ext S w (w4.setCell ⟨G, 2, none⟩ v4) k ∨ q = some k) ∧ Chg S w (w4.setCell ⟨G, 2, none⟩ v4)) :=
    doneF HM.out HS.out HLT.out HO1.out HG1.out HR1.out (FC.add b) _ q (ChOne.add.mpr ⟨_, rfl, HO.out⟩) HQ.out _ ho4 hg4 (by simpa using hr4)
  obtain ⟨a4, n4, c4, rfl⟩ := isSliceV ho4
  clear ho4 hg4 hr4 hb4 d0 d1 d2 y0 y1 y2
  go_wp2
  go_end0
  exact ⟨rfl, HF.out⟩
end Go.Proofs.YthcnhjmkcekdaaaGreat

namespace Go.Proofs.YthcnhjmkcekdaaaGreat
open Go.RowKit Go.Maps Plain
set_option linter.unusedVariables false
set_option linter.unusedSimpArgs false
def alnum (c : Nat) : Bool := (decide (97 ≤ c) && decide (c ≤ 122)) || (decide (48 ≤ c) && decide (c ≤ 57))
def okc (c : Nat) : Bool := alnum c || c == 46 || c == 45 || c == 95
theorem retBo {a b : Bool} (h : a = b) : Ending.returned (.bool a) = .returned (.bool b) := by rw [h]
set_option maxRecDepth 100000 in
theorem isAlnumOf (c : Nat) (w : World) (hc : c < 256) : Calls Tryz.prog 86 #[.int .u8 (c : Int)] w fun e w' => e = .returned (.bool (alnum c)) ∧ w' = w := by
  go_enter Tryz.func86, Tryz.ntmps86
  go_wp2
  all_goals
    go_ret
    exact ⟨retBo (by unfold alnum; first | rfl | (rw [Bool.eq_iff_iff]; simp; omega) | (simp; omega)), rfl⟩
def nmL (l : Nm) : Bool := decide (0 < l.length) && decide (l.length ≤ 32) && alnum (l.headD 0).toNat && l.all (fun c => okc c.toNat)
theorem sget (s : ByteArray) (i : Nat) (h : i < s.size) : s.data.toList[i]? = some s[i] := by
  have h' : i < s.data.size := h
  have e : s.data.toList[i]? = s.data[i]? := by simp
  rw [e, Array.getElem?_eq_getElem h']
  rfl
theorem nm_first {s : ByteArray} (h : 0 < s.size) (hn : alnum (s[0]'h).toNat = false) : nmL s.data.toList = false := by
  have h1 := sget s 0 h
  unfold nmL
  have h2 : s.data.toList.headD 0 = s[0]'h := by
    cases e : s.data.toList with
    | nil => rw [e] at h1; simp at h1
    | cons a l => rw [e] at h1; simp at h1; simp [h1]
  rw [h2, hn]
  simp
theorem nm_bad {s : ByteArray} {i : Nat} (h : i < s.size) (hn : okc (s[i]'h).toNat = false) : nmL s.data.toList = false := by
  have h1 := sget s i h
  have h2 : s.data.toList.all (fun c => okc c.toNat) = false := by
    rw [List.all_eq_false]
    exact ⟨s[i]'h, List.mem_of_getElem? h1, by simp [hn]⟩
  unfold nmL
  rw [h2]
  simp
theorem nm_good {s : ByteArray} (h0 : 0 < s.size) (h32 : s.size ≤ 32) (ha : alnum (s[0]'h0).toNat = true) (hall : ∀ i (h : i < s.size), okc (s[i]'h).toNat = true) : nmL s.data.toList = true := by
  have h1 := sget s 0 h0
  have hl : s.data.toList.length = s.size := by simp
  have h2 : s.data.toList.headD 0 = s[0]'h0 := by
    cases e : s.data.toList with
    | nil => rw [e] at h1; simp at h1
    | cons a l => rw [e] at h1; simp at h1; simp [h1]
  have h3 : s.data.toList.all (fun c => okc c.toNat) = true := by
    rw [List.all_eq_true]
    intro c hc
    obtain ⟨i, hi, e⟩ := List.getElem_of_mem hc
    have hi' : i < s.size := by rw [← hl]; exact hi
    have h4 := sget s i hi'
    rw [List.getElem?_eq_getElem hi, e] at h4
    simp only [Option.some.injEq] at h4
    rw [h4]
    exact hall i hi'
  unfold nmL
  rw [h2, ha, h3, hl]
  simp
  omega
theorem nm_size {s : ByteArray} (h : s.size = 0 ∨ 32 < s.size) : nmL s.data.toList = false := by
  have hl : s.data.toList.length = s.size := by simp
  unfold nmL
  rw [hl]
  rcases h with h | h
  · simp [h]
  · simp; omega
theorem u8lt (c : UInt8) : c.toNat < 256 := UInt8.toNat_lt c
set_option maxHeartbeats 1000000 in
set_option maxRecDepth 100000 in
theorem isNameOf (s : ByteArray) (w : World) (hs : s.size ≤ maxLen) : Calls Tryz.prog 75 #[.string s] w fun e w' => e = .returned (.bool (nmL s.data.toList)) ∧ w' = w := by
  unfold maxLen at hs
  by_cases h0 : s.size = 0
  · rw [nm_size (.inl h0)]
    have h1 : ((s.size : Int) == 0) = true := by rw [h0]; rfl
    clear h0
    go_enter Tryz.func75, Tryz.ntmps75
    go_wp2
    go_ret
    exact ⟨rfl, rfl⟩
  have h1 : ((s.size : Int) == 0) = false := beq_eq_false_iff_ne.mpr (by omega)
  by_cases h32 : 32 < s.size
  · rw [nm_size (.inr h32)]
    go_enter Tryz.func75, Tryz.ntmps75
    go_wp2
    go_ret
    exact ⟨rfl, rfl⟩
  have h2 : ¬ ((s.size : Int) > 32) := by omega
  have hp : 0 < s.size := by omega
  go_enter Tryz.func75, Tryz.ntmps75
  go_wp2_with fail
  refine (isAlnumOf _ w (u8lt _)).mono ?_
  rintro e w1 ⟨rfl, rfl⟩
  cases hal : alnum (s[0]'hp).toNat with
  | false =>
    have HN : Hid (nmL s.data.toList = false) := nm_first hp hal
    clear hal
    go_wp2
    go_ret
    exact ⟨retBo HN.out.symm, rfl⟩
  | true =>
    have HAL : Hid (alnum (s[0]'hp).toNat = true) := hal
    clear hal
    go_wp2
    go_loopw [20] (fun s20 wx => ∃ k : Nat, k ≤ s.size ∧ s20 = .int .i64 k ∧ wx = w1 ∧ Hid (∀ i (h : i < s.size), i < k → okc (s[i]'h).toNat = true)) (fun s _ => 100 - (intOf s).toNat)
    case atStart => exact ⟨0, by omega, rfl, rfl, fun i h hi => by omega⟩
    case round =>
      obtain ⟨k, hk, rfl, rfl, HK⟩ := hrel
      by_cases hlt : k < s.size
      · go_wp2_with fail
        refine (isAlnumOf _ wr (u8lt _)).mono ?_
        rintro e w2 ⟨rfl, rfl⟩
        have HNX : Hid (okc (s[k]'hlt).toNat = true → ∀ i (h : i < s.size), i < k + 1 → okc (s[i]'h).toNat = true) := fun ho i h hi => by
          by_cases e : i = k
          · subst e; exact ho
          · exact HK.out i h (by omega)
        have HBD : Hid (okc (s[k]'hlt).toNat = false → nmL s.data.toList = false) := nm_bad hlt
        have hc := u8lt (s[k]'hlt)
        cases hal : alnum (s[k]'hlt).toNat with
        | true =>
          have HO : Hid (okc (s[k]'hlt).toNat = true) := by unfold Hid okc; rw [hal]; rfl
          clear hal
          go_wp2
          go_roundw
          case rel => exact ⟨k + 1, by omega, by go_num, by trivial, HNX.out HO.out⟩
          case measure => simp [intOf]; omega
        | false =>
          have HAF : Hid (alnum (s[k]'hlt).toNat = false) := hal
          clear hal
          by_cases e1 : (s[k]'hlt).toNat = 46
          · have HO : Hid (okc (s[k]'hlt).toNat = true) := by unfold Hid okc; rw [e1]; rfl
            have q1 : (((s[k]'hlt).toNat : Int) != 46) = false := by rw [e1]; rfl
            clear e1
            go_wp2
            go_roundw
            case rel => exact ⟨k + 1, by omega, by go_num, by trivial, HNX.out HO.out⟩
            case measure => simp [intOf]; omega
          have q1 : (((s[k]'hlt).toNat : Int) != 46) = true := by simp only [bne_iff_ne, ne_eq]; omega
          by_cases e2 : (s[k]'hlt).toNat = 45
          · have HO : Hid (okc (s[k]'hlt).toNat = true) := by unfold Hid okc; rw [e2]; rfl
            have q2 : (((s[k]'hlt).toNat : Int) != 45) = false := by rw [e2]; rfl
            clear e2 e1
            go_wp2
            go_roundw
            case rel => exact ⟨k + 1, by omega, by go_num, by trivial, HNX.out HO.out⟩
            case measure => simp [intOf]; omega
          have q2 : (((s[k]'hlt).toNat : Int) != 45) = true := by simp only [bne_iff_ne, ne_eq]; omega
          by_cases e3 : (s[k]'hlt).toNat = 95
          · have HO : Hid (okc (s[k]'hlt).toNat = true) := by unfold Hid okc; rw [e3]; rfl
            have q3 : (((s[k]'hlt).toNat : Int) != 95) = false := by rw [e3]; rfl
            clear e3 e2 e1
            go_wp2
            go_roundw
            case rel => exact ⟨k + 1, by omega, by go_num, by trivial, HNX.out HO.out⟩
            case measure => simp [intOf]; omega
          have q3 : (((s[k]'hlt).toNat : Int) != 95) = true := by simp only [bne_iff_ne, ne_eq]; omega
          have HN : Hid (nmL s.data.toList = false) := HBD.out (by unfold okc; rw [HAF.out]; simp [e1, e2, e3])
          clear e1 e2 e3
          go_wp2
          go_ret
          exact ⟨retBo HN.out.symm, rfl⟩
      · have HG : Hid (nmL s.data.toList = true) := nm_good hp (by omega) HAL.out (fun i h => HK.out i h (by omega))
        go_wp2
        go_ret
        exact ⟨retBo HG.out.symm, rfl⟩
end Go.Proofs.YthcnhjmkcekdaaaGreat

namespace Go.Proofs.YthcnhjmkcekdaaaGreat
open Go.RowKit Go.Maps Plain
set_option linter.unusedVariables false
set_option linter.unusedSimpArgs false
/-- A slice of texts. -/
def StrsAt (w : World) (v : Value) (ns : List ByteArray) : Prop := ∃ a cap, v = .slice a ns.length cap ∧ ns.length ≤ cap ∧ cap ≤ maxLen ∧ (∀ s ∈ ns, s.size ≤ maxLen) ∧ (ns ≠ [] → ∃ b off, a = some ⟨b, off, none⟩ ∧ ∀ j s, ns[j]? = some s → w.cell? ⟨b, off + j, none⟩ = some (.string s))
theorem StrsAt.none (w : World) : StrsAt w (.slice none 0 0) [] := ⟨Option.none, 0, rfl, by simp, by simp, by simp, by simp⟩
theorem StrsAt.one (w : World) (s : ByteArray) (t : TypeId) (hs : s.size ≤ maxLen) : StrsAt (w.alloc (.cells #[.string s] t)) (.slice (some ⟨w.heap.size, 0, Option.none⟩) 1 1) [s] :=
  ⟨_, 1, rfl, by simp, by unfold maxLen; omega, by simpa using hs, fun _ => ⟨w.heap.size, 0, rfl, fun j x hj => by
    have : j = 0 := by
      have := (List.getElem?_eq_some_iff.mp hj).1
      simp at this; exact this
    subst this
    simp at hj
    subst hj
    rw [World.cell?_alloc_at _ _ _ _ rfl]; rfl⟩⟩
theorem StrsAt.two (w : World) (s t : ByteArray) (ty : TypeId) (hs : s.size ≤ maxLen) (ht : t.size ≤ maxLen) : StrsAt (w.alloc (.cells #[.string s, .string t] ty)) (.slice (some ⟨w.heap.size, 0, Option.none⟩) 2 2) [s, t] :=
  ⟨_, 2, rfl, by simp, by unfold maxLen; omega, by simp; exact ⟨hs, ht⟩, fun _ => ⟨w.heap.size, 0, rfl, fun j x hj => by
    have : j = 0 ∨ j = 1 := by
      have := (List.getElem?_eq_some_iff.mp hj).1
      simp at this; omega
    rcases this with rfl | rfl
    · simp at hj; subst hj
      rw [World.cell?_alloc_at _ _ _ _ rfl]; rfl
    · simp at hj; subst hj
      rw [World.cell?_alloc_at _ _ _ _ rfl]; rfl⟩⟩
def nmsB (ns : List ByteArray) : Bool := ns.all fun s => nmL s.data.toList
def rdy (dead : Bool) (ns : List ByteArray) : Int := if dead then 34 else if nmsB ns then 0 else 30
theorem nms_take (ns : List ByteArray) (k : Nat) (s : ByteArray) (h : ns[k]? = some s) : nmsB (ns.take (k + 1)) = (nmsB (ns.take k) && nmL s.data.toList) := by
  obtain ⟨hk, e⟩ := List.getElem?_eq_some_iff.mp h
  unfold nmsB
  rw [List.take_succ_eq_append_getElem hk, e]
  simp
theorem nms_bad (ns : List ByteArray) (k : Nat) (s : ByteArray) (h : ns[k]? = some s) (hb : nmL s.data.toList = false) : nmsB ns = false := by
  unfold nmsB
  rw [List.all_eq_false]
  exact ⟨s, List.mem_of_getElem? h, by simp [hb]⟩
theorem retI {a b : Int} (h : a = b) : Ending.returned (.int .i64 a) = .returned (.int .i64 b) := by rw [h]
set_option maxHeartbeats 1000000 in
set_option maxRecDepth 100000 in
theorem readyOf (d : Nat) (dead : Bool) (ns : List ByteArray) (v : Value) (w : World) (hd : w.cell? ⟨d, 8, none⟩ = some (.bool dead)) (hv : StrsAt w v ns) :
    Calls Tryz.prog 77 #[.pointer (some ⟨d, 0, none⟩), v] w fun e w' => e = .returned (.int .i64 (rdy dead ns)) ∧ w' = w := by
  obtain ⟨a, cap, rfl, hlc, hcm, hsz, hcells⟩ := hv
  unfold maxLen at hcm
  have HC : Hid (ns ≠ [] → ∃ b off, a = some ⟨b, off, none⟩ ∧ ∀ j s, ns[j]? = some s → w.cell? ⟨b, off + j, none⟩ = some (.string s)) := hcells
  have HSZ : Hid (∀ s ∈ ns, s.size ≤ maxLen) := hsz
  clear hcells hsz
  cases dead with
  | true =>
    go_enter Tryz.func77, Tryz.ntmps77
    go_wp2
    go_ret
    exact ⟨rfl, rfl⟩
  | false =>
    go_enter Tryz.func77, Tryz.ntmps77
    go_wp2
    go_loopg [15] ns.length (fun gk s15 wx => ∃ k : Nat, k + gk = ns.length ∧ s15 = .int .i64 k ∧ wx = w ∧ Hid (nmsB (ns.take k) = true))
    case atStart => exact ⟨0, by omega, rfl, rfl, rfl⟩
    case round =>
      obtain ⟨k, hkg, rfl, rfl, HK⟩ := hrel
      cases gk with
      | zero =>
        have HR : Hid (rdy false ns = 0) := by
          have := HK.out
          rw [List.take_of_length_le (by omega)] at this
          unfold Hid rdy
          rw [this]; rfl
        go_wp2
        go_ret
        exact ⟨retI HR.out.symm, rfl⟩
      | succ gk1 =>
        have hk : k < ns.length := by omega
        obtain ⟨s, hs⟩ : ∃ s, ns[k]? = some s := ⟨_, List.getElem?_eq_getElem hk⟩
        obtain ⟨b, off, rfl, hc⟩ := HC.out (by rintro rfl; simp at hk)
        have hcell := hc k s hs
        have HT : Hid (nmsB (ns.take (k + 1)) = (nmsB (ns.take k) && nmL s.data.toList)) := nms_take ns k s hs
        have HB : Hid (nmL s.data.toList = false → nmsB ns = false) := nms_bad ns k s hs
        have hss : s.size ≤ maxLen := HSZ.out s (List.mem_of_getElem? hs)
        clear hc hs
        go_wp2_with fail
        refine (isNameOf s wr hss).mono ?_
        rintro e w1 ⟨rfl, rfl⟩
        cases hn : nmL s.data.toList with
        | false =>
          have HR : Hid (rdy false ns = 30) := by unfold Hid rdy; rw [HB.out hn]; rfl
          clear hn
          go_wp2
          go_ret
          exact ⟨retI HR.out.symm, rfl⟩
        | true =>
          have HK2 : Hid (nmsB (ns.take (k + 1)) = true) := by unfold Hid; rw [HT.out, HK.out, hn]; rfl
          clear hn
          go_wp2
          go_roundg gk1
          case measure => omega
          case rel => exact ⟨k + 1, by omega, by go_num, by trivial, HK2.out⟩
def ptrO (o : Option Nat) : Value := o.elim (.pointer none) fun g => .pointer (some ⟨g, 0, none⟩)
/-- A name is looked up. -/
theorem lookO (w : World) (m : Option Nat) (L : Dir) (h : MapO w m L) (s : ByteArray) (hs : s.size ≤ maxLen) : (Instr.lookup 65 (.map m) (.string s) false).run Tryz.prog w = .ok (ptrO (look L s.data.toList)) w := by
  have hz : (zeroValue 74).run Tryz.prog w = .ok (.pointer none) w := by kernel_rfl
  rcases h with ⟨rfl, rfl⟩ | ⟨b, rfl, h⟩
  · have e := Maps.look_nil (w := w) false keyed9 Tryz.underlying65 hz (key_str s hs)
    exact e
  · obtain ⟨v, ps, h1, h2⟩ := World.ownsMap.lookup h keyed9 Tryz.underlying65 hz (zd := .nil) (zp := []) rfl (key_str s hs)
    rw [toD_at] at h2
    have hv : v = ptrO (look L s.data.toList) := by
      rcases Rp_inv h2 with ⟨rfl, e⟩ | ⟨g, rfl, e⟩
      · cases hl : look L s.data.toList with
        | none => rfl
        | some g => rw [hl] at e; simp at e
      · cases hl : look L s.data.toList with
        | none => rw [hl] at e; simp at e
        | some g' =>
          rw [hl] at e
          simp at e
          obtain rfl : g' = g := by omega
          rfl
    rw [hv] at h1
    exact h1
end Go.Proofs.YthcnhjmkcekdaaaGreat

namespace Go.Proofs.YthcnhjmkcekdaaaGreat
open Go.RowKit Go.Maps Plain
set_option linter.unusedVariables false
set_option linter.unusedSimpArgs false
/-- The nine cells of a disk. -/
theorem dcells {w : World} {d : Nat} {a0 a1 a2 a3 a4 a5 a6 a7 a8 : Value} (h : w.heap[d]? = some (.cells #[a0, a1, a2, a3, a4, a5, a6, a7, a8] 70)) :
    (w.cell? ⟨d, 0, none⟩ = some a0 ∧ w.cell? ⟨d, 1, none⟩ = some a1 ∧ w.cell? ⟨d, 2, none⟩ = some a2 ∧ w.cell? ⟨d, 3, none⟩ = some a3 ∧ w.cell? ⟨d, 4, none⟩ = some a4 ∧ w.cell? ⟨d, 5, none⟩ = some a5 ∧ w.cell? ⟨d, 6, none⟩ = some a6 ∧ w.cell? ⟨d, 7, none⟩ = some a7 ∧ w.cell? ⟨d, 8, none⟩ = some a8) ∧
    (w.frozen? ⟨d, 0, none⟩ = false ∧ w.frozen? ⟨d, 1, none⟩ = false ∧ w.frozen? ⟨d, 2, none⟩ = false ∧ w.frozen? ⟨d, 3, none⟩ = false ∧ w.frozen? ⟨d, 4, none⟩ = false ∧ w.frozen? ⟨d, 5, none⟩ = false ∧ w.frozen? ⟨d, 6, none⟩ = false ∧ w.frozen? ⟨d, 7, none⟩ = false ∧ w.frozen? ⟨d, 8, none⟩ = false) := by
  simp [World.cell?, World.frozen?, h]
theorem dset {w : World} {d : Nat} {cs : Array Value} (h : w.heap[d]? = some (.cells cs 70)) (i : Nat) (u : Value) : (w.setCell ⟨d, i, none⟩ u).heap[d]? = some (.cells (cs.setIfInBounds i u) 70) := heap_setCell_same w d i _ _ u h
/-- What find answers. -/
def fnd (dead : Bool) (L : Dir) (s : ByteArray) : Value × Int := if dead then (.pointer none, 34) else if nmL s.data.toList then (match look L s.data.toList with
    | some g => (.pointer (some ⟨g, 0, none⟩), 0)
    | none => (.pointer none, 31)) else (.pointer none, 30)
theorem retPI {a b : Value} {x y : Int} (h1 : a = b) (h2 : x = y) : Ending.returned (.tuple #[a, .int .i64 x]) = .returned (.tuple #[b, .int .i64 y]) := by rw [h1, h2]
set_option maxHeartbeats 1000000 in
set_option maxRecDepth 100000 in
theorem findOf (d : Nat) (ms : Option Nat) (L : Dir) (dead : Bool) (s : ByteArray) (hs : s.size ≤ maxLen) (w : World) (h0 : w.cell? ⟨d, 0, none⟩ = some (.map ms)) (h8 : w.cell? ⟨d, 8, none⟩ = some (.bool dead)) (hm : MapO w ms L) :
    Calls Tryz.prog 79 #[.pointer (some ⟨d, 0, none⟩), .string s] w fun e w' => e = .returned (.tuple #[(fnd dead L s).1, .int .i64 (fnd dead L s).2]) ∧ w' = w.alloc (.cells #[.string s] 9) := by
  have hdl := cell_lt h0
  simp only at hdl
  have HB : Hid (Below w.heap.size w (w.alloc (.cells #[.string s] 9))) := (Below.refl _ _).alloc (Nat.le_refl _) _
  have HR : Hid (Calls Tryz.prog 77 #[.pointer (some ⟨d, 0, none⟩), .slice (some ⟨w.heap.size, 0, none⟩) 1 1] (w.alloc (.cells #[.string s] 9)) fun e w' => e = .returned (.int .i64 (rdy dead [s])) ∧ w' = w.alloc (.cells #[.string s] 9)) :=
    readyOf d dead [s] _ _ (by rw [HB.out.cell (p := ⟨d, 8, none⟩) hdl]; exact h8) (StrsAt.one w s 9 hs)
  have c0 : (w.alloc (.cells #[.string s] 9)).cell? ⟨d, 0, none⟩ = some (.map ms) := by rw [HB.out.cell (p := ⟨d, 0, none⟩) hdl]; exact h0
  have hlk := lookO (w.alloc (.cells #[.string s] 9)) ms L (hm.of_block (fun b e => HB.out.block b (by subst e; exact hm.lt))) s hs
  clear hm
  cases dead with
  | true =>
    have HE : Hid (rdy true [s] = 34) := rfl
    rw [HE.out] at HR
    go_enter Tryz.func79, Tryz.ntmps79
    go_wp2_with fail
    refine HR.out.mono ?_
    rintro e w1 ⟨rfl, rfl⟩
    go_wp2
    go_ret2
    exact ⟨rfl, rfl⟩
  | false =>
    cases hn : nmL s.data.toList with
    | false =>
      have HE : Hid (rdy false [s] = 30) := by unfold Hid rdy nmsB; simp [hn]
      have HF : Hid (fnd false L s = (.pointer none, 30)) := by unfold Hid fnd; rw [hn]; rfl
      rw [HE.out] at HR
      clear hn
      go_enter Tryz.func79, Tryz.ntmps79
      go_wp2_with fail
      refine HR.out.mono ?_
      rintro e w1 ⟨rfl, rfl⟩
      go_wp2
      go_ret2
      exact ⟨retPI (by rw [HF.out]; rfl) (by rw [HF.out]), rfl⟩
    | true =>
      have HE : Hid (rdy false [s] = 0) := by unfold Hid rdy nmsB; simp [hn]
      rw [HE.out] at HR
      cases hl : look L s.data.toList with
      | none =>
        have HF : Hid (fnd false L s = (.pointer none, 31)) := by unfold Hid fnd; rw [hn, hl]; rfl
        rw [hl] at hlk
        simp only [ptrO, Option.elim] at hlk
        clear hn hl
        go_enter Tryz.func79, Tryz.ntmps79
        go_wp2_with fail
        refine HR.out.mono ?_
        rintro e w1 ⟨rfl, rfl⟩
        go_wp2
        go_ret2
        exact ⟨retPI (by rw [HF.out]; rfl) (by rw [HF.out]), rfl⟩
      | some g =>
        have HF : Hid (fnd false L s = (.pointer (some ⟨g, 0, none⟩), 0)) := by unfold Hid fnd; rw [hn, hl]; rfl
        rw [hl] at hlk
        simp only [ptrO, Option.elim] at hlk
        clear hn hl
        go_enter Tryz.func79, Tryz.ntmps79
        go_wp2_with fail
        refine HR.out.mono ?_
        rintro e w1 ⟨rfl, rfl⟩
        go_wp2
        go_ret2
        exact ⟨retPI (by rw [HF.out]; rfl) (by rw [HF.out]), rfl⟩
/-- What spend does. -/
def spd (ops : Int) (fused : Bool) (left : Int) (dead : Bool) : Bool × Int × Int × Bool := if fused && left == 0 then (false, ops, left, true) else (true, ops + 1, if fused then left - 1 else left, dead)
set_option maxHeartbeats 1000000 in
set_option maxRecDepth 100000 in
theorem spendOf (d : Nat) (a0 a1 a2 a3 a4 : Value) (ops left : Int) (fused dead : Bool) (w : World) (h : w.heap[d]? = some (.cells #[a0, a1, a2, a3, a4, .int .i64 ops, .bool fused, .int .i64 left, .bool dead] 70)) (h1 : 0 ≤ ops) (h2 : ops ≤ 4611686018427387904) (h3 : fused = true → 0 ≤ left ∧ left ≤ 9223372036854775807) :
    Calls Tryz.prog 78 #[.pointer (some ⟨d, 0, none⟩)] w fun e w' => e = .returned (.bool (spd ops fused left dead).1) ∧ w'.heap[d]? = some (.cells #[a0, a1, a2, a3, a4, .int .i64 (spd ops fused left dead).2.1, .bool fused, .int .i64 (spd ops fused left dead).2.2.1, .bool (spd ops fused left dead).2.2.2] 70) ∧ w.grownBy w' (some d) := by
  obtain ⟨⟨c0, c1, c2, c3, c4, c5, c6, c7, c8⟩, ⟨f0, f1, f2, f3, f4, f5, f6, f7, f8⟩⟩ := dcells h
  have HH : Hid (w.heap[d]? = some (.cells #[a0, a1, a2, a3, a4, .int .i64 ops, .bool fused, .int .i64 left, .bool dead] 70)) := h
  clear h
  cases fused with
  | false =>
    have HF : Hid (spd ops false left dead = (true, ops + 1, left, dead)) := rfl
    rw [HF.out]
    have HW : Hid ((w.setCell ⟨d, 5, none⟩ (.int .i64 (ops + 1))).heap[d]? = some (.cells #[a0, a1, a2, a3, a4, .int .i64 (ops + 1), .bool false, .int .i64 left, .bool dead] 70)) := dset HH.out 5 _
    clear h3
    go_enter Tryz.func78, Tryz.ntmps78
    go_wp2
    go_ret
    exact ⟨rfl, HW.out, grow_set _ _ _ _⟩
  | true =>
    obtain ⟨h4, h5⟩ := h3 rfl
    by_cases h0 : left = 0
    · subst h0
      have HF : Hid (spd ops true 0 dead = (false, ops, 0, true)) := rfl
      rw [HF.out]
      have HW : Hid ((w.setCell ⟨d, 8, none⟩ (.bool true)).heap[d]? = some (.cells #[a0, a1, a2, a3, a4, .int .i64 ops, .bool true, .int .i64 0, .bool true] 70)) := dset HH.out 8 _
      clear h3
      go_enter Tryz.func78, Tryz.ntmps78
      go_wp2
      go_ret
      exact ⟨rfl, HW.out, grow_set _ _ _ _⟩
    · have q0 : (left == 0) = false := beq_eq_false_iff_ne.mpr h0
      have HF : Hid (spd ops true left dead = (true, ops + 1, left - 1, dead)) := by unfold Hid spd; rw [q0]; rfl
      rw [HF.out]
      have HW : Hid (((w.setCell ⟨d, 7, none⟩ (.int .i64 (left - 1))).setCell ⟨d, 5, none⟩ (.int .i64 (ops + 1))).heap[d]? = some (.cells #[a0, a1, a2, a3, a4, .int .i64 (ops + 1), .bool true, .int .i64 (left - 1), .bool dead] 70)) := dset (dset HH.out 7 _) 5 _
      clear h3
      go_enter Tryz.func78, Tryz.ntmps78
      go_wp2
      go_ret
      exact ⟨rfl, HW.out, grow_trans (grow_set _ _ _ _) (grow_set _ _ _ _) (.inl rfl)⟩
end Go.Proofs.YthcnhjmkcekdaaaGreat
