import Derived.Test.YtdcagkojfgcbkaaHkd
/-! hint: Of. -/
namespace Go.Proofs.Ytdcagkojfgcbkaa
open Go.RowKit Plain Go.WideMaps Go.Maps
set_option linter.unusedVariables false
set_option linter.unusedSimpArgs false

def ents (st : List Pl) (qs : List Nat) : List He := qs.map fun j => (st.getD j Pl.zero).entry
theorem ents_len (st : List Pl) (qs : List Nat) : (ents st qs).length = qs.length := List.length_map ..
theorem ents_take (st : List Pl) (qs : List Nat) {k j : Nat} (h : qs[k]? = some j) : (ents st qs).take (k + 1) = (ents st qs).take k ++ [(st.getD j Pl.zero).entry] := by
  obtain ⟨hk, e⟩ := List.getElem?_eq_some_iff.mp h
  have hk2 : k < (ents st qs).length := by rw [ents_len]; exact hk
  rw [List.take_succ_eq_append_getElem hk2]
  congr 2
  simp [ents, e]
def OfPost (s z : Int) (st : List Pl) (w : World) (e : Ending) (w' : World) : Prop := ∃ a n c r qs, e = .returned (.agg #[.int .i64 s, .int .i64 z, .slice a n c]) ∧ PlacesOk st qs ∧ qs.length ≤ st.length ∧ OwnHe w' (.slice a n c) (ents st qs) r ∧ (∀ g, r = some g → w.heap.size ≤ g) ∧ Below w.heap.size w w'
theorem hres5 : Try.f5.results = #[.cell 6 25] := by kernel_rfl
theorem ButZ.below {Z B : Nat} {w w' : World} (h : ButZ Z w w') (hB : B ≤ Z) (hs : B ≤ w.heap.size) : Below B w w' :=
  ⟨h.os, h.tape, h.output, h.size, fun x hx => h.block x (by omega) (by omega)⟩

theorem grow_set (w : World) (G i : Nat) (u : Value) : w.grownBy (w.setCell ⟨G, i, none⟩ u) (some G) := grow_setCells w G i [u]
theorem OfI.step {w3 wr W w6 : World} {Z : Nat} {s z : Int} {v0 : Value} {es' : List He} {r : Option Nat} {g6 : Nat} {a : Option Addr} {n c : Nat} (hBZ : ButZ Z w3 wr) (hZ : Hb wr Z s z v0) (hZl : Z < w3.heap.size) (hr : ∀ g, r = some g → w3.heap.size ≤ g)
    (hb : Below wr.heap.size wr W) (hg : W.grownBy w6 r) (ho : OwnHe w6 (.slice a n c) es' (some g6)) (hr6 : some g6 = r ∨ g6 = W.heap.size) :
    Hb w6 Z s z v0 ∧ OfI w3 Z s z es' (w6.setCell ⟨Z, 2, none⟩ (.slice a n c)) := by
  have h1 := hBZ.size
  have h2 := hb.size
  have hne : ∀ x, x < w3.heap.size → some x ≠ r := fun x hx e => by have := hr x e.symm; omega
  have hG : ∀ x, x < w3.heap.size → w6.heap[x]? = wr.heap[x]? := fun x hx => (hg.block x (by omega) (hne x hx)).trans (hb.block x (by omega))
  have hb6 : Hb w6 Z s z v0 := hZ.block (hG Z hZl)
  have hgs := grow_set w6 Z 2 (.slice a n c)
  have h6 := hg.size
  have hgl : w3.heap.size ≤ g6 := by
    rcases hr6 with e | e
    · exact hr g6 e.symm
    · omega
  refine ⟨hb6, ⟨hgs.os.trans (hg.os.trans (hb.os.trans hBZ.os)), hgs.tape.trans (hg.tape.trans (hb.tape.trans hBZ.tape)), hgs.output.trans (hg.output.trans (hb.output.trans hBZ.output)), by have := hgs.size; omega, fun x hx hxZ => ?_⟩, a, n, c, some g6, hb6.set _, ho.kept hgs (.inr (fun e => ?_)), fun g e => ?_⟩
  · exact (hgs.block x (by omega) (fun e => hxZ (Option.some.inj e))).trans ((hG x hx).trans (hBZ.block x hx hxZ))
  · have := Option.some.inj e; omega
  · cases e; exact hgl
set_option maxHeartbeats 4000000 in
set_option maxRecDepth 100000 in
theorem ofOf (s z : Int) (v : Value) (st : List Pl) (w : World) (h : PlsAt w v st) : Calls Try.prog 5 #[.int .i64 s, .int .i64 z, v] w (OfPost s z st w) := by
  have HPL : Hid (∀ u, Below w.heap.size w u → PlsAt u v st) := fun u hu => h.later hu
  obtain ⟨a, cap, rfl, hcl, hok, hcells⟩ := h
  have HC : Hid (st ≠ [] → ∃ b off, a = some ⟨b, off, none⟩ ∧ ∀ j, j < st.length → Pl.CellsAt w b (off + j * 9) (st.getD j Pl.zero)) := hcells
  clear hcells hok
  obtain ⟨W0, hW0⟩ : ∃ W0, w.alloc (.cells #[.int .i64 0, .int .i64 0, .slice none 0 0] 25) = W0 := ⟨_, rfl⟩
  obtain ⟨W2, hW2⟩ : ∃ W2, W0.alloc (.cells #[.int .i64 s, .int .i64 z, .slice none 0 0] 25) = W2 := ⟨_, rfl⟩
  have hs0 : W0.heap.size = w.heap.size + 1 := by rw [← hW0]; simp
  have hs2 : W2.heap.size = w.heap.size + 2 := by rw [← hW2]; simp; omega
  have hb0 : Below w.heap.size w W0 := by rw [← hW0]; exact (Below.refl _ _).alloc (Nat.le_refl _) _
  have hb2 : Below W0.heap.size W0 W2 := by rw [← hW2]; exact (Below.refl _ _).alloc (Nat.le_refl _) _
  have HB2 : Hid (Below w.heap.size w W2) := hb0.trans (hb2.mono (by omega))
  have HR2 : Hid (Hb W2 w.heap.size 0 0 (.slice none 0 0)) := by
    have h1 : Hb W0 w.heap.size 0 0 (.slice none 0 0) := by rw [← hW0]; exact Hb.new _ _ _ _
    exact h1.block (hb2.block _ (by omega))
  have HZ2 : Hid (Hb W2 (w.heap.size + 1) s z (.slice none 0 0)) := by
    unfold Hid
    rw [← hW2, ← hs0]; exact Hb.new _ _ _ _
  have HLP : Hid (Calls Try.prog 10 #[.slice a st.length cap] W2 (LpPost st W2)) := lastPlacesOf _ st W2 (HPL.out _ HB2.out)
  have HW2 : Hid (W0.alloc (.cells #[.int .i64 s, .int .i64 z, .slice none 0 0] 25) = W2) := hW2
  clear hb0 hb2 hW2
  go_enter Try.func5, Try.ntmps5
  go_wp2_with fail
  rw [HW2.out]
  refine HLP.out.mono ?_
  rintro e w3 ⟨ap, cp, rp, qs, rfl, hPO, hql, hov, hrp, hb3⟩
  have hs3 := hb3.size
  have HPO : Hid (PlacesOk st qs) := hPO
  have HOV : Hid (OwnV w3 (.slice ap qs.length cp) (iv (qs.map Int.ofNat)) rp) := hov
  have HRP : Hid (∀ g, rp = some g → W2.heap.size ≤ g) := hrp
  have HB3 : Hid (Below w.heap.size w w3) := HB2.out.trans (hb3.mono HB2.out.size)
  have HR3 : Hid (Hb w3 w.heap.size 0 0 (.slice none 0 0)) := HR2.out.block (hb3.block _ (by omega))
  have H0 : Hid (OfI w3 (w.heap.size + 1) s z ((ents st qs).take 0) w3) := ⟨ButZ.refl _ _, none, 0, 0, none, HZ2.out.block (hb3.block _ (by omega)), OwnHe.nil _, fun g e => by cases e⟩
  clear hPO hov hrp hb3 HLP HR2 HZ2 HB2 hW0
  go_wp2
  go_loopg [16] qs.length (fun gk s16 wx => ∃ (k : Nat), k + gk = qs.length ∧ s16 = .int .i64 k ∧ Hid (OfI w3 (w.heap.size + 1) s z ((ents st qs).take k) wx))
  case atStart => exact ⟨0, by omega, rfl, H0.out⟩
  case round =>
    clear H0
    obtain ⟨k, hkg, rfl, HV⟩ := hrel
    obtain ⟨a0, n0, c0, r, hZ, hO, hr⟩ := HV.out.hb
    have hB := HV.out.but
    obtain ⟨z0, z1, z2, zf⟩ := hZ
    have zf2 := zf 2
    cases gk with
    | zero =>
      obtain rfl : k = qs.length := by omega
      have hR := HR3.out.block (hB.block _ (by omega) (by omega))
      have HRX : Hid (Hb wr w.heap.size 0 0 (.slice none 0 0)) := hR
      obtain ⟨r0, r1, r2, rf⟩ := hR
      have rf0 := rf 0
      have rf1 := rf 1
      have rf2 := rf 2
      have HF : Hid (∀ u, u = (((wr.setCell ⟨w.heap.size, 0, none⟩ (.int .i64 s)).setCell ⟨w.heap.size, 1, none⟩ (.int .i64 z)).setCell ⟨w.heap.size, 2, none⟩ (.slice a0 n0 c0)) → OfPost s z st w (.returned (.agg #[.int .i64 s, .int .i64 z, .slice a0 n0 c0])) u) := fun u hu => by
        have hb1 : Below w.heap.size w wr := HB3.out.trans (hB.below (by omega) (by omega))
        have hset : ∀ (u : World) (j : Nat) (x : Value), Below w.heap.size w u → Below w.heap.size w (u.setCell ⟨w.heap.size, j, none⟩ x) := fun u j x hb => Below.setCell hb (show w.heap.size ≤ (⟨w.heap.size, j, none⟩ : Addr).block from Nat.le_refl _) x
        rw [← ents_len st qs, List.take_length] at hO
        have hrl : ∀ g, r = some g → w.heap.size < g := fun g e => by have := hr g e; omega
        have hk1 := hO.kept (grow_set wr w.heap.size 0 (.int .i64 s)) (by cases r with
          | none => exact .inl rfl
          | some g => exact .inr (fun e => by have := hrl g rfl; have := Option.some.inj e; omega))
        have hk2 := hk1.kept (grow_set _ w.heap.size 1 (.int .i64 z)) (by cases r with
          | none => exact .inl rfl
          | some g => exact .inr (fun e => by have := hrl g rfl; have := Option.some.inj e; omega))
        have hk3 := hk2.kept (grow_set _ w.heap.size 2 (.slice a0 n0 c0)) (by cases r with
          | none => exact .inl rfl
          | some g => exact .inr (fun e => by have := hrl g rfl; have := Option.some.inj e; omega))
        subst hu
        exact ⟨a0, n0, c0, r, qs, rfl, HPO.out, hql, hk3, fun g e => by have := hrl g e; omega, hset _ _ _ (hset _ _ _ (hset _ _ _ hb1))⟩
      clear hO hB HV zf rf
      go_wp2
      refine bodyPost_ret (v := .agg #[.int .i64 s, .int .i64 z, .slice a0 n0 c0]) ?_ rfl (HF.out _ rfl)
      have ne : ∀ {i j : Nat}, i ≠ j → (⟨w.heap.size, i, none⟩ : Addr) ≠ ⟨w.heap.size, j, none⟩ := fun hij e => hij (congrArg Addr.off e)
      have o1 : (wr.setCell ⟨w.heap.size, 0, none⟩ (.int .i64 s)).cell? ⟨w.heap.size, 1, none⟩ = some (.int .i64 0) := (World.cell?_setCell_other _ _ _ _ (ne (by omega))).trans r1
      have o2 : ((wr.setCell ⟨w.heap.size, 0, none⟩ (.int .i64 s)).setCell ⟨w.heap.size, 1, none⟩ (.int .i64 z)).cell? ⟨w.heap.size, 2, none⟩ = some (.slice none 0 0) := (World.cell?_setCell_other _ _ _ _ (ne (by omega))).trans ((World.cell?_setCell_other _ _ _ _ (ne (by omega))).trans r2)
      have p2 := World.cell?_setCell_same _ ⟨w.heap.size, 2, none⟩ (.slice a0 n0 c0) o2
      have p1 := (World.cell?_setCell_other _ ⟨w.heap.size, 2, none⟩ ⟨w.heap.size, 1, none⟩ (.slice a0 n0 c0) (ne (by omega))).trans (World.cell?_setCell_same _ _ (.int .i64 z) o1)
      have p0 := (World.cell?_setCell_other _ ⟨w.heap.size, 2, none⟩ ⟨w.heap.size, 0, none⟩ (.slice a0 n0 c0) (ne (by omega))).trans ((World.cell?_setCell_other _ ⟨w.heap.size, 1, none⟩ ⟨w.heap.size, 0, none⟩ (.int .i64 z) (ne (by omega))).trans (World.cell?_setCell_same _ _ (.int .i64 s) r0))
      simp only [results, hres5]
      go_simp
    | succ gk1 =>
      have hk : k < qs.length := by omega
      obtain ⟨j, hj⟩ : ∃ j, qs[k]? = some j := ⟨_, List.getElem?_eq_getElem hk⟩
      have hjl : j < st.length := (HPO.out.mem j (List.mem_of_getElem? hj)).1
      obtain ⟨gp, hgp, rfl, hcp⟩ : ∃ gp, rp = some gp ∧ ap = some ⟨gp, 0, none⟩ ∧ wr.cell? ⟨gp, k, none⟩ = some (.int .i64 (j : Int)) := by
        obtain ⟨gp, h1, h2, h3⟩ := HOV.out.get (j := k) (u := .int .i64 (j : Int)) (by simp [iv, hj])
        refine ⟨gp, h1, h2, ?_⟩
        have hl := HRP.out gp h1
        rw [World.cell?_of_block (w := w3) (a := ⟨gp, k, none⟩) (hB.block gp (cell_lt h3) (by omega))]
        exact h3
      have hne : st ≠ [] := by rintro rfl; simp at hjl
      obtain ⟨b, off, rfl, hc⟩ := HC.out hne
      have hck := hc j hjl
      have hbl : b < w.heap.size := hck.lt
      have HCX : Hid (∀ u, u.heap[b]? = w.heap[b]? → Pl.CellsAt u b (off + j * 9) (st.getD j Pl.zero)) := fun u hu => hck.block hu
      have hbr : wr.heap[b]? = w.heap[b]? := (hB.block b (by omega) (by omega)).trans (HB3.out.block b hbl)
      have hckr := HCX.out wr hbr
      have HTK : Hid ((ents st qs).take (k + 1) = (ents st qs).take k ++ [(st.getD j Pl.zero).entry]) := ents_take st qs hj
      have hel : ((ents st qs).take k).length ≤ st.length := by rw [List.length_take, ents_len]; omega
      generalize (ents st qs).take k = es at *
      generalize st.getD j Pl.zero = x at *
      have HEN : Hid (∀ u, Calls Try.prog 11 #[x.agg] u fun e w' => e = .returned x.entry.agg ∧ Below u.heap.size u w') := entryOfOf x
      have HZX : Hid (Hb wr (w.heap.size + 1) s z (.slice a0 n0 c0)) := ⟨z0, z1, z2, zf⟩
      have HO : Hid (OwnHe wr (.slice a0 n0 c0) es r) := hO
      have HR : Hid (∀ g, r = some g → w3.heap.size ≤ g) := hr
      have HBZ : Hid (ButZ (w.heap.size + 1) w3 wr) := hB
      have hwr : w3.heap.size ≤ wr.heap.size := hB.size
      obtain ⟨xk, xo, xt, xp, xq, xkey, xval, xpos, xlen⟩ := x
      obtain ⟨d0, d1, d2, d3, d4, d5, d6, d7, d8⟩ := hckr
      simp only at d0 d1 d2 d3 d4 d5 d6 d7 d8
      have hji : (j : Int) < (st.length : Int) := by omega
      have hki : (k : Int) < (qs.length : Int) := by omega
      have hZ3 : w.heap.size + 1 < w3.heap.size := by omega
      clear hO hr hB HV zf hck hc hne hbr hj HC
      go_wp2
      go_region_law (first
        | (refine step_entry rfl 25 rfl _ (by first | rfl | simp [Act.put]) ((HEN.out _).mono ?_)
           rintro e w5 ⟨rfl, hb5⟩
           refine ⟨_, rfl, ?_⟩
           have HB5 : Hid (Below wr.heap.size wr w5) := Below.trans (Below.drew (Below.refl _ wr)) hb5
           have HZ5 : Hid (Hb w5 (w.heap.size + 1) s z (.slice a0 n0 c0)) := HZX.out.block (HB5.out.block _ HZX.out.lt)
           obtain ⟨y0, y1, y2, yf⟩ := HZ5.out
           have yf2 := yf 2
           have ya : ∀ o, (w5.alloc o).cell? ⟨w.heap.size + 1, 2, none⟩ = some (.slice a0 n0 c0) := fun o => by
             rw [World.cell?_of_block (w := w5) (a := ⟨w.heap.size + 1, 2, none⟩) (((Below.refl _ w5).alloc (Nat.le_refl _) o).block _ HZ5.out.lt)]
             exact y2
           clear hb5 yf)
        | (refine step_append_he rfl (.tmp 21) (.tmp 27) rfl (.slice a0 n0 c0) _ es [Pl.entry ⟨xk, xo, xt, xp, xq, xkey, xval, xpos, xlen⟩] r (by first | rfl | simp [Act.eval, Act.put]) (by first | rfl | simp [Act.eval, Act.put]) ((HO.out.later HB5.out).later ((Below.refl _ _).alloc (Nat.le_refl _) _)) (src_he w5 _ rfl _) (by simp; omega) (.inr (by simp)) ?_
           intro v6 w6 g6 ho6 hg6 hr6
           obtain ⟨a6, c6, rfl, -, -⟩ := ho6.shape
           have HS6 := OfI.step HBZ.out HZX.out hZ3 HR.out (HB5.out.trans (((Below.refl _ _).alloc (Nat.le_refl _) _).mono HB5.out.size)) hg6 ho6 hr6
           have HI6 : Hid (OfI w3 (w.heap.size + 1) s z (es ++ [Pl.entry ⟨xk, xo, xt, xp, xq, xkey, xval, xpos, xlen⟩]) (w6.setCell ⟨w.heap.size + 1, 2, none⟩ (.slice a6 (es ++ [Pl.entry ⟨xk, xo, xt, xp, xq, xkey, xval, xpos, xlen⟩]).length c6))) := HS6.2
           obtain ⟨q0, q1, q2, qf⟩ := HS6.1
           have qf2 := qf 2
           clear ho6 hg6 hr6 HS6 qf))
      all_goals
        have HI7 : Hid (OfI w3 (w.heap.size + 1) s z ((ents st qs).take (k + 1)) (w6.setCell ⟨w.heap.size + 1, 2, none⟩ (.slice a6 (es.length + 1) c6))) := by
          unfold Hid
          rw [HTK.out]
          have h := HI6.out
          rw [List.length_append] at h
          exact h
        clear HI6
        go_wp2
        go_roundg gk1
        case rel => exact ⟨k + 1, by omega, rfl, HI7.out⟩
        case measure => exact Nat.lt_succ_self _
end Go.Proofs.Ytdcagkojfgcbkaa
