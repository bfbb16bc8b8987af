import Derived.Test.YtmhaodcgognhiaaMgr
import Derived.Deep.CutRange
import Derived.BigRegion
/-! merge: the law's own helpers: spare, kept, others. -/
namespace Go.Proofs.Ytmhaodcgognhiaa
open Go.RowKit Plain
set_option linter.unusedVariables false
set_option linter.unusedSimpArgs false

theorem src_recJ (W : World) (x : Rc) : Src Try.prog 7 26 (.slice (some ⟨W.heap.size, 0, none⟩) 1 1) [x].length (rcells [x]) (W.alloc (.cells #[.int .i64 x.k, .int .i64 x.o, .int .i64 x.t, .int .i64 x.p, .int .i64 x.q, .string x.key, .string x.val] 33)) :=
  Src.ofSlice _ Try.underlying26 _ 1 1 _ (by rfl) (fun j u hj => by
    rw [WideShapes.add_plain, World.cell?_alloc_at _ _ _ _ rfl, Nat.zero_add, ← hj]
    simp [rcells, Rc.cells]) (by intro u hu; simp [rcells, Rc.cells] at hu; rcases hu with rfl | rfl | rfl | rfl | rfl | rfl | rfl <;> rfl)

set_option maxHeartbeats 4000000 in
theorem spareOf (v : Value) (st : List Rc) (w : World) (h : RecsAt w v st) :
    Calls Try.prog 12 #[v] w fun e w' => e = .returned (.slice (some ⟨w.heap.size, 0, none⟩) (st.length + 1) (st.length + 1)) ∧ OwnR w' (.slice (some ⟨w.heap.size, 0, none⟩) (st.length + 1) (st.length + 1)) (st ++ [mkR 77 0]) (some w.heap.size) ∧ Below w.heap.size w w' := by
  obtain ⟨a, cap, rfl, hcl, hok, hcells⟩ := h
  have HC : Hid (st ≠ [] → ∃ b off, a = some ⟨b, off, none⟩ ∧ ∀ j, j < st.length → CellsAt w b (off + j * 7) (st.getD j Rc.none)) := hcells
  obtain ⟨i, hi, hz0, hz1, hz2⟩ := info_parts Try.info33
  have HI5 : Hid (Try.prog.info? 33 = some i ∧ i.zero = some Rc.none.agg ∧ i.size = 7 ∧ i.bytes = 72) := ⟨hi, hz0, hz1, hz2⟩
  obtain ⟨N, hN⟩ : ∃ N, st.length + 1 = N := ⟨_, rfl⟩
  have eN : (st.length : Int) + 1 = (N : Int) := by omega
  have HN : Hid (st.length + 1 = N) := hN
  have hNb : N ≤ 2199023255001 := by omega
  have hNl : st.length < N := by omega
  rw [hN]
  clear hcells hok hi hz0 hz1 hz2 hN
  go_enter Try.func12, Try.ntmps12
  go_wp2_with (at_make; refine wpList_make_full _ rfl _ _ 26 rfl w.heap.size 33 i _ 7 Try.underlying26 HI5.out.1 HI5.out.2.1 HI5.out.2.2.1 .i64 .i64 _ _ N rfl rfl rfl rfl (by rw [HI5.out.2.2.2]; omega) (by unfold maxLen; omega) (by simp) ?_)
  intro w1 ho1 hg1
  obtain ⟨g, hg⟩ : ∃ g, w.heap.size = g := ⟨_, rfl⟩
  have HG1 : Hid (OwnR w1 (.slice (some ⟨g, 0, none⟩) N N) (List.replicate N Rc.none) (some g)) := by
    have := (OwnR.made ho1).1
    rw [hg] at this
    exact this
  have HB1 : Hid (Below w.heap.size w w1) := grow_below hg1 (Nat.le_refl _) (by simp)
  rw [hg]
  have hge : w.heap.size ≤ g := by omega
  have HSG : Hid (w.heap.size = g) := hg
  clear ho1 hg1 hg
  go_wp2
  go_loopw [4] (fun s4 wr => ∃ k : Nat, k ≤ st.length ∧ s4 = .int .i64 k ∧ OwnR wr (.slice (some ⟨g, 0, none⟩) N N) (st.take k ++ (List.replicate N Rc.none).drop k) (some g) ∧ Below w.heap.size w wr) (fun i _ => st.length - (intOf i).toNat)
  case atStart => exact ⟨0, by omega, rfl, by simpa using HG1.out, HB1.out⟩
  case round =>
    obtain ⟨k, hk, rfl, hown, hbl⟩ := hrel
    have HO : Hid (OwnR wr (.slice (some ⟨g, 0, none⟩) N N) (st.take k ++ (List.replicate N Rc.none).drop k) (some g)) := hown
    have HB : Hid (Below w.heap.size w wr) := hbl
    have HLN : Hid ((st.take k ++ (List.replicate N Rc.none).drop k).length = N) := by unfold Hid; simp; omega
    clear hown hbl HG1 HB1
    by_cases hlt : k < st.length
    · have hne : st ≠ [] := by rintro rfl; simp at hlt
      obtain ⟨b, off, rfl, hc⟩ := HC.out hne
      have hck := hc k hlt
      have hbl := hck.lt
      have hx := hck.block (HB.out.block b hck.lt)
      obtain ⟨⟨y, hy⟩, f0, f1, f2, f3, f4, f5, f6⟩ := HO.out.open (j := k) (by rw [HLN.out]; omega)
      have HNN : Hid (OwnR (wr.setCells g (k * 7) (st.getD k Rc.none).cells) (.slice (some ⟨g, 0, none⟩) N N) (st.take (k + 1) ++ (List.replicate N Rc.none).drop (k + 1)) (some g)) := by
        have := HO.out.putAll (j := k) (by rw [HLN.out]; omega) (st.getD k Rc.none)
        rw [back_step st _ k hlt (by simp; omega)] at this
        exact this
      have HBN : Hid (Below w.heap.size w (wr.setCells g (k * 7) (st.getD k Rc.none).cells)) := HB.out.trans (grow_below (grow_setCells wr g _ _) HB.out.size (fun q hq => by simp at hq; omega))
      generalize st.getD k Rc.none = x at hx HNN HBN
      obtain ⟨xk, xo, xt, xp, xq, xkey, xval⟩ := x
      obtain ⟨yk, yo, yt, yp, yq, ykey, yval⟩ := y
      obtain ⟨c0, c1, c2, c3, c4, c5, c6⟩ := hx
      obtain ⟨d0, d1, d2, d3, d4, d5, d6⟩ := hy
      simp only at c0 c1 c2 c3 c4 c5 c6 d0 d1 d2 d3 d4 d5 d6
      clear hck hc hne
      go_wp2
      go_roundw
      case rel => exact ⟨k + 1, by omega, by go_num, HNN.out, HBN.out⟩
      case measure => simp [intOf]; omega
    · obtain rfl : k = st.length := by omega
      have HO2 : Hid (OwnR wr (.slice (some ⟨g, 0, none⟩) N N) (st ++ [Rc.none]) (some g)) := by
        have := HO.out
        rw [List.take_length, List.drop_replicate, show N - st.length = 1 by omega] at this
        exact this
      obtain ⟨⟨y, hy⟩, f0, f1, f2, f3, f4, f5, f6⟩ := HO2.out.open (j := st.length) (by simp)
      have HNN : Hid (OwnR (wr.setCells g (st.length * 7) (mkR 77 0).cells) (.slice (some ⟨g, 0, none⟩) N N) (st ++ [mkR 77 0]) (some g)) := by
        have := HO2.out.putAll (j := st.length) (by simp) (mkR 77 0)
        rw [List.set_append_right _ _ (Nat.le_refl _), Nat.sub_self, List.set_cons_zero] at this
        exact this
      have HBN : Hid (Below w.heap.size w (wr.setCells g (st.length * 7) (mkR 77 0).cells)) := HB.out.trans (grow_below (grow_setCells wr g _ _) HB.out.size (fun q hq => by simp at hq; omega))
      obtain ⟨yk, yo, yt, yp, yq, ykey, yval⟩ := y
      obtain ⟨d0, d1, d2, d3, d4, d5, d6⟩ := hy
      simp only at d0 d1 d2 d3 d4 d5 d6
      clear HC HO HO2
      go_wp2
      go_ret
      exact ⟨by rw [HSG.out]; rfl, by rw [HSG.out]; exact HNN.out, HBN.out⟩

/-- A row with a mark behind it reads. -/
theorem OwnR.head {w : World} {g n c : Nat} {st : List Rc} {m : Rc} (h : OwnR w (.slice (some ⟨g, 0, none⟩) n c) (st ++ [m]) (some g)) (hl : st.length ≤ 2199023255000) (hok : ∀ x ∈ st, x.Ok) : RecsAt w (.slice (some ⟨g, 0, none⟩) st.length c) st := by
  refine ⟨_, c, rfl, hl, hok, fun _ => ⟨g, 0, rfl, fun j hj => ?_⟩⟩
  have := h.at (j := j) (by simp; omega)
  rw [show (st ++ [m]).getD j Rc.none = st.getD j Rc.none by simp [List.getElem?_append_left hj]] at this
  rw [Nat.zero_add]
  exact this

set_option maxHeartbeats 4000000 in
theorem mkeptOf (g : Nat) (vb : Value) (st : List Rc) (w : World) (ho : OwnR w (.slice (some ⟨g, 0, none⟩) (st.length + 1) (st.length + 1)) (st ++ [mkR 77 0]) (some g)) (hr : RecsAt w vb st) :
    Calls Try.prog 15 #[.slice (some ⟨g, 0, none⟩) (st.length + 1) (st.length + 1), vb] w fun e w' => e = .returned (.bool true) ∧ ∃ n, w' = w.drewN n := by
  have HR : Hid (RecsAt w vb st) := hr
  obtain ⟨a, capb, rfl, hl, hok, -⟩ := hr
  have HA : Hid (RecsAt w (.slice (some ⟨g, 0, none⟩) st.length (st.length + 1)) st) := ho.head hl hok
  obtain ⟨c0, c1, c2, c3, c4, c5, c6⟩ : CellsAt w g (st.length * 7) (mkR 77 0) := by
    have := ho.at (j := st.length) (by simp)
    rwa [show (st ++ [mkR 77 0]).getD st.length Rc.none = mkR 77 0 by simp] at this
  simp only [mkR] at c0 c1 c2 c3 c4 c5 c6
  obtain ⟨N, hN⟩ : ∃ N, st.length + 1 = N := ⟨_, rfl⟩
  have eN : (st.length : Int) + 1 = (N : Int) := by omega
  have hNb : N ≤ 2199023255001 := by omega
  have hNl : st.length < N := by omega
  have hNe : ((N : Int) == (N : Int)) = true := by simp
  rw [hN] at HA ⊢
  clear ho hok hN
  go_enter Try.func15, Try.ntmps15
  go_wp2_with fail
  refine (alikeYes _ _ st w HA.out HR.out).mono ?_
  rintro e w1 ⟨rfl, n, rfl⟩
  go_wp2
  go_ret
  exact ⟨rfl, n, rfl⟩

def oth (x : Rc) : Rc := ⟨if x.k = 2 then 1 else 2, x.o, x.t, x.p, x.q, x.key, x.val⟩
theorem oth_ok {x : Rc} (h : x.Ok) : (oth x).Ok := ⟨by unfold oth I64; simp only; split <;> omega, h.o, h.t, h.p, h.q, h.key, h.val⟩
theorem take_snocM (st : List Rc) (j : Nat) (h : j < st.length) : st.take (j + 1) = st.take j ++ [st.getD j Rc.none] := by
  rw [List.take_succ_eq_append_getElem h]
  simp [h]

set_option maxHeartbeats 4000000 in
theorem othersOf (v : Value) (st : List Rc) (w : World) (h : RecsAt w v st) :
    Calls Try.prog 26 #[v] w fun e w' => ∃ v' r, e = .returned v' ∧ OwnR w' v' (st.map oth) r ∧ (∀ g, r = some g → w.heap.size ≤ g) ∧ Below w.heap.size w w' := by
  obtain ⟨a, cap, rfl, hcl, hok, hcells⟩ := h
  have HC : Hid (st ≠ [] → ∃ b off, a = some ⟨b, off, none⟩ ∧ ∀ j, j < st.length → CellsAt w b (off + j * 7) (st.getD j Rc.none)) := hcells
  clear hcells hok
  go_enter Try.func26, Try.ntmps26
  go_wp2
  go_loopw [3, 4] (fun s3 s4 wr => ∃ (k : Nat) (q : Option Nat) (a3 : Option Addr) (c3 : Nat), k ≤ st.length ∧ s4 = .int .i64 k ∧ s3 = .slice a3 k c3 ∧ OwnR wr (.slice a3 k c3) ((st.take k).map oth) q ∧ (∀ g, q = some g → w.heap.size ≤ g) ∧ Below w.heap.size w wr) (fun _ i _ => st.length - (intOf i).toNat)
  case atStart => exact ⟨0, none, none, 0, by omega, rfl, rfl, OwnR.nil _, by simp, Below.refl _ _⟩
  case round =>
    obtain ⟨k, q, a3, c3, hk, rfl, rfl, hown, hq, hbl⟩ := hrel
    have HO : Hid (OwnR wr (.slice a3 k c3) ((st.take k).map oth) q) := hown
    have HQ : Hid (∀ g, q = some g → w.heap.size ≤ g) := hq
    have HBL : Hid (Below w.heap.size w wr) := hbl
    have HLN : Hid (((st.take k).map oth).length = k) := by unfold Hid; simp; omega
    clear hown hq hbl
    by_cases hlt : k < st.length
    · have hne : st ≠ [] := by rintro rfl; simp at hlt
      obtain ⟨b, off, rfl, hc⟩ := HC.out hne
      have hck := hc k hlt
      have hx := hck.block (HBL.out.block b hck.lt)
      have HT : Hid ((st.take (k + 1)).map oth = (st.take k).map oth ++ [oth (st.getD k Rc.none)]) := by unfold Hid; rw [take_snocM st k hlt, List.map_append]; rfl
      generalize st.getD k Rc.none = x at hx HT
      generalize (st.take k).map oth = MS at HO HLN HT
      obtain ⟨xk, xo, xt, xp, xq, xkey, xval⟩ := x
      obtain ⟨c0, c1, c2, c3', c4, c5, c6⟩ := hx
      simp only at c0 c1 c2 c3' c4 c5 c6
      clear hck hc hne
      by_cases hk2 : xk = 2
      · subst hk2
        have HTT : Hid ((st.take (k + 1)).map oth = MS ++ [⟨1, xo, xt, xp, xq, xkey, xval⟩]) := by unfold Hid; rw [HT.out]; unfold oth; simp 
        clear HT
        go_wp2_with (at_builtin; refine wpList_append_recs _ rfl _ _ rfl _ _ MS [⟨1, xo, xt, xp, xq, xkey, xval⟩] q rfl rfl ?hOwn ?hSrc ?hLen (.inr (Nat.succ_pos _)) ?_)
        case hOwn => exact HO.out.later (((Below.refl _ _).alloc (Nat.le_refl _) _).alloc (by simp) _)
        case hSrc =>
          have := src_recJ (wr.alloc (.cells #[.int .i64 1, .int .i64 xo, .int .i64 xt, .int .i64 xp, .int .i64 xq, .string xkey, .string xval] 33)) ⟨1, xo, xt, xp, xq, xkey, xval⟩
          rw [show (wr.alloc (.cells #[.int .i64 1, .int .i64 xo, .int .i64 xt, .int .i64 xp, .int .i64 xq, .string xkey, .string xval] 33)).heap.size = wr.heap.size + 1 by simp] at this
          exact this
        case hLen => have := HLN.out; simp; omega
        intro v' w3 g3 ho3 hg3 hr3
        obtain ⟨a4, c4', rfl, hm3, -⟩ := ho3.shape
        have hl3 : (MS ++ [(⟨1, xo, xt, xp, xq, xkey, xval⟩ : Rc)]).length = k + 1 := by have := HLN.out; simp; omega
        rw [hl3] at ho3 ⊢
        have HO3 : Hid (OwnR w3 (.slice a4 (k + 1) c4') ((st.take (k + 1)).map oth) (some g3)) := by unfold Hid; rw [HTT.out]; exact ho3
        have HQ3 : Hid (∀ g, some g3 = some g → w.heap.size ≤ g) := fun g hg => by
          have h1 := HBL.out.size
          simp at hg
          subst hg
          rcases hr3 with e | rfl
          · exact HQ.out g3 e.symm
          · simp; omega
        have HB3 : Hid (Below w.heap.size w w3) := ((HBL.out.alloc HBL.out.size (.cells #[.int .i64 1, .int .i64 xo, .int .i64 xt, .int .i64 xp, .int .i64 xq, .string xkey, .string xval] 33)).alloc (by have := HBL.out.size; simp; omega) _).trans (grow_below hg3 (by have := HBL.out.size; simp; omega) HQ.out)
        clear ho3 hg3 hr3 hl3 hm3
        go_wp2
        go_roundw
        case rel => exact ⟨k + 1, some g3, a4, c4', by omega, by go_num, rfl, HO3.out, HQ3.out, HB3.out⟩
        case measure => simp [intOf]; omega
      · have hk2' : (xk == 2) = false := by simp [hk2]
        have HTT : Hid ((st.take (k + 1)).map oth = MS ++ [⟨2, xo, xt, xp, xq, xkey, xval⟩]) := by unfold Hid; rw [HT.out]; unfold oth; simp [hk2]
        clear HT
        go_wp2_with (at_builtin; refine wpList_append_recs _ rfl _ _ rfl _ _ MS [⟨2, xo, xt, xp, xq, xkey, xval⟩] q rfl rfl ?hOwn ?hSrc ?hLen (.inr (Nat.succ_pos _)) ?_)
        case hOwn => exact HO.out.later (((Below.refl _ _).alloc (Nat.le_refl _) _).alloc (by simp) _)
        case hSrc =>
          have := src_recJ (wr.alloc (.cells #[.int .i64 2, .int .i64 xo, .int .i64 xt, .int .i64 xp, .int .i64 xq, .string xkey, .string xval] 33)) ⟨2, xo, xt, xp, xq, xkey, xval⟩
          rw [show (wr.alloc (.cells #[.int .i64 2, .int .i64 xo, .int .i64 xt, .int .i64 xp, .int .i64 xq, .string xkey, .string xval] 33)).heap.size = wr.heap.size + 1 by simp] at this
          exact this
        case hLen => have := HLN.out; simp; omega
        intro v' w3 g3 ho3 hg3 hr3
        obtain ⟨a4, c4', rfl, hm3, -⟩ := ho3.shape
        have hl3 : (MS ++ [(⟨2, xo, xt, xp, xq, xkey, xval⟩ : Rc)]).length = k + 1 := by have := HLN.out; simp; omega
        rw [hl3] at ho3 ⊢
        have HO3 : Hid (OwnR w3 (.slice a4 (k + 1) c4') ((st.take (k + 1)).map oth) (some g3)) := by unfold Hid; rw [HTT.out]; exact ho3
        have HQ3 : Hid (∀ g, some g3 = some g → w.heap.size ≤ g) := fun g hg => by
          have h1 := HBL.out.size
          simp at hg
          subst hg
          rcases hr3 with e | rfl
          · exact HQ.out g3 e.symm
          · simp; omega
        have HB3 : Hid (Below w.heap.size w w3) := ((HBL.out.alloc HBL.out.size (.cells #[.int .i64 2, .int .i64 xo, .int .i64 xt, .int .i64 xp, .int .i64 xq, .string xkey, .string xval] 33)).alloc (by have := HBL.out.size; simp; omega) _).trans (grow_below hg3 (by have := HBL.out.size; simp; omega) HQ.out)
        clear ho3 hg3 hr3 hl3 hm3
        go_wp2
        go_roundw
        case rel => exact ⟨k + 1, some g3, a4, c4', by omega, by go_num, rfl, HO3.out, HQ3.out, HB3.out⟩
        case measure => simp [intOf]; omega
    · obtain rfl : k = st.length := by omega
      have HF : Hid (OwnR wr (.slice a3 st.length c3) (st.map oth) q) := by have := HO.out; rwa [List.take_length] at this
      clear HC HO
      go_wp2
      go_ret
      exact ⟨_, q, rfl, HF.out, HQ.out, HBL.out⟩
end Go.Proofs.Ytmhaodcgognhiaa
