import Derived.Test.YtmcfcbonmmifeaaDoorOnF
import Derived.Test.YtmcfcbonmmifeaaDoorJtro
import Derived.Test.YtmcfcbonmmifeaaDoorJk
import Derived.Test.YtmcfcbonmmifeaaDoorJl
/-! dedupe: the law of once: its walk. -/
namespace Go.Proofs.YtmcfcbonmmifeaaDoor
open Go.RowKit Go.Maps Plain
set_option linter.unusedVariables false
set_option linter.unusedSimpArgs false

/-- All that the law holds. -/
structure OnceW (W w : World) (t : Nat) (m : Option Nat) (L : List Pr) (v : Value) (G : List Gv) (P : Nat → Prop) (rv : Value) (rs : List Rc) (rr : Option Nat) : Prop where
  giv : GAt P w v G
  tab : TabAt w t m L
  ap : ∀ b, foot t m b → ¬ P b
  inv : OInv L G
  lone : Lone G
  ltP : ∀ b, P b → b < w.heap.size
  gP : ∀ b, P b → W.heap.size ≤ b
  gT : ∀ b, foot t m b → W.heap.size ≤ b
  row : OwnR w rv rs rr
  rP : ∀ b, rr = some b → ¬ P b ∧ ¬ foot t m b ∧ W.heap.size ≤ b
  fold : FInv L rs
  ok : ∀ x ∈ rs, x.Ok
  below : Below W.heap.size W w
theorem OnceW.later {W w w' : World} {t : Nat} {m : Option Nat} {L : List Pr} {v : Value} {G : List Gv} {P : Nat → Prop} {rv : Value} {rs : List Rc} {rr : Option Nat} (h : OnceW W w t m L v G P rv rs rr) (hb : Below w.heap.size w w') : OnceW W w' t m L v G P rv rs rr :=
  ⟨h.giv.later hb, h.tab.later hb, h.ap, h.inv, h.lone, fun b hp => Nat.lt_of_lt_of_le (h.ltP b hp) hb.size, h.gP, h.gT, h.row.later hb, h.rP, h.fold, h.ok, below_step h.below hb⟩
theorem OwnR.blt {w : World} {v : Value} {ts : List Rc} {r : Option Nat} (h : OwnR w v ts r) : ∀ b, r = some b → b < w.heap.size := by
  intro b e; subst e; exact h.lt
theorem OwnR.of_block {w w' : World} {v : Value} {ts : List Rc} {r : Option Nat} (h : OwnR w v ts r) (hs : w.heap.size ≤ w'.heap.size) (hb : ∀ g, r = some g → w'.heap[g]? = w.heap[g]?) : OwnR w' v ts r := by
  rcases h with h0 | ⟨g, cap, rfl, rfl, hg, h1, h2, h3, h4, h5⟩
  · exact .inl h0
  · have hb := hb g rfl
    refine .inr ⟨g, cap, rfl, rfl, Nat.lt_of_lt_of_le hg hs, h1, h2, fun j hj => ?_, fun j hj => ?_, fun j hj => ?_⟩
    · rw [World.frozen?_of_block (w := w) (a := ⟨g, j, none⟩) hb]; exact h3 j hj
    · rw [World.cell?_of_block (w := w) (a := ⟨g, j, none⟩) hb]; exact h4 j hj
    · rw [World.cell?_of_block (w := w) (a := ⟨g, j, none⟩) hb]; exact h5 j hj
/-- Behind sends, the record not yet laid down. -/
structure OnceS (W w : World) (t : Nat) (m : Option Nat) (L L' : List Pr) (v : Value) (G : List Gv) (P : Nat → Prop) (rv : Value) (rs : List Rc) (rr : Option Nat) : Prop where
  giv : GAt P w v G
  tab : TabAt w t m L'
  ap : ∀ b, foot t m b → ¬ P b
  inv : OInv L' G
  lone : Lone G
  ltP : ∀ b, P b → b < w.heap.size
  gP : ∀ b, P b → W.heap.size ≤ b
  gT : ∀ b, foot t m b → W.heap.size ≤ b
  row : OwnR w rv rs rr
  rP : ∀ b, rr = some b → ¬ P b ∧ ¬ foot t m b ∧ W.heap.size ≤ b
  fold : FInv L rs
  ok : ∀ x ∈ rs, x.Ok
  below : Below W.heap.size W w
theorem OnceS.same {W w : World} {t : Nat} {m : Option Nat} {L L' : List Pr} {v : Value} {G : List Gv} {P : Nat → Prop} {rv : Value} {rs : List Rc} {rr : Option Nat} (h : OnceS W w t m L L' v G P rv rs rr) (e : L' = L) : OnceW W w t m L v G P rv rs rr := by
  subst e
  exact ⟨h.giv, h.tab, h.ap, h.inv, h.lone, h.ltP, h.gP, h.gT, h.row, h.rP, h.fold, h.ok, h.below⟩
theorem OnceW.sent {W w w' : World} {t : Nat} {m : Option Nat} {L : List Pr} {v : Value} {G : List Gv} {P : Nat → Prop} {rv : Value} {rs : List Rc} {rr : Option Nat} (h : OnceW W w t m L v G P rv rs rr) {pid seq off : Int} {key : ByteArray} {v' : Value} {tk : Bool} {L' : List Pr} {G' : List Gv} {m' : Option Nat} {P' : Nat → Prop} (s : Sent P w w' t m L pid seq off key v' tk L' G' m' P') : OnceS W w' t m' L L' v' G' P' rv rs rr := by
  have hs := h.below.size
  refine ⟨s.giv, s.tab, s.ap, s.inv, s.lone, s.ltP, fun b hb => ?_, fun b hb => ?_, ?_, fun b e => ?_, h.fold, h.ok, ?_⟩
  · rcases s.newP b hb with h1 | h1
    · exact h.gP b h1
    · omega
  · rcases s.newT b hb with h1 | h1
    · exact h.gT b h1
    · omega
  · refine h.row.of_block s.chg.size fun g e => s.chg.block g (h.row.blt g e) ?_
    obtain ⟨h1, h2, _⟩ := h.rP g e
    rintro (h3 | h3)
    · exact h1 h3
    · exact h2 h3
  · obtain ⟨h1, h2, h3⟩ := h.rP b e
    have hl := h.row.blt b e
    refine ⟨fun hp => ?_, fun hf => ?_, h3⟩
    · rcases s.newP b hp with h4 | h4
      · exact h1 h4
      · omega
    · rcases s.newT b hf with h4 | h4
      · exact h2 h4
      · omega
  · exact h.below.trans (s.chg.below hs fun b hb => by
      rcases hb with h1 | h1
      · exact h.gP b h1
      · exact h.gT b h1)
/-- The record is laid down. -/
theorem OnceS.laid {W w w0 w' : World} {t : Nat} {m : Option Nat} {L L' : List Pr} {v : Value} {G : List Gv} {P : Nat → Prop} {rv rv' : Value} {rs : List Rc} {rr : Option Nat} (h : OnceS W w t m L L' v G P rv rs rr) {x : Rc} (hx : x.Ok) (hp : passE L x = 0) (hl : passL L x = L') {g : Nat} (h0 : Below w.heap.size w w0) (ho : OwnR w' rv' (rs ++ [x]) (some g)) (hk : w0.grownBy w' rr) (hg : some g = rr ∨ w0.heap.size ≤ g) : OnceW W w' t m L' v G P rv' (rs ++ [x]) (some g) := by
  have hs := h.below.size
  have hs0 := h0.size
  have hblk : ∀ b, b < w.heap.size → rr ≠ some b → w'.heap[b]? = w.heap[b]? := fun b hb hne => by
    rw [hk.block b (by omega) (fun e => hne e.symm)]
    exact h0.block b hb
  have hsz : w.heap.size ≤ w'.heap.size := Nat.le_trans hs0 hk.size
  have hgn : ¬ P g ∧ ¬ foot t m g ∧ W.heap.size ≤ g := by
    rcases hg with e | e
    · exact h.rP g e.symm
    · refine ⟨fun hp => ?_, fun hf => ?_, by omega⟩
      · have := h.ltP g hp; omega
      · have : g < w.heap.size := by
          rcases hf with rfl | e2
          · exact h.tab.lt
          · exact h.tab.mlt g e2
        omega
  refine ⟨h.giv.keep hsz fun b hb hl => hblk b hl fun e => (h.rP b e).1 hb, ?_, h.ap, h.inv, h.lone, fun b hb => Nat.lt_of_lt_of_le (h.ltP b hb) hsz, h.gP, h.gT, ho, fun b e => by cases e; exact hgn, by rw [← hl]; exact h.fold.more hp, fun y hy => ?_, ?_⟩
  · refine h.tab.of_block (hblk t h.tab.lt fun e => (h.rP t e).2.1 (.inl rfl)) fun b e => hblk b (h.tab.mlt b e) fun e2 => (h.rP b e2).2.1 (.inr e)
  · rcases List.mem_append.mp hy with hy | hy
    · exact h.ok y hy
    · simp at hy; rw [hy]; exact hx
  · exact (below_step h.below h0).trans (grow_below hk (by omega) fun b e => (h.rP b e).2.2)
theorem onceR_ok {pid seq off : Int} {key : ByteArray} (hp : I64 pid) (hq : I64 seq) (ho : I64 off) (hk : key.size = 1) : (onceR pid seq off key).Ok :=
  ⟨by unfold onceR I64; simp, ho, by unfold onceR I64; simp, hp, hq, by show key.size ≤ _; rw [hk]; simp [maxLen], by show (ByteArray.empty).size ≤ _; exact Nat.zero_le _⟩
theorem src_rec1 (W : World) (x : Rc) : Src Tryd.prog 7 29 (.slice (some ⟨W.heap.size, 0, none⟩) 1 1) [x].length (rcells [x]) (W.alloc (.cells #[.int .i64 x.k, .int .i64 x.o, .int .i64 x.t, .int .i64 x.p, .int .i64 x.q, .string x.key, .string x.val] 35)) :=
  Src.ofSlice _ Tryd.underlying29 _ 1 1 _ (by rfl) (fun j u hj => by
    rw [WideShapes.add_plain, World.cell?_alloc_at _ _ _ _ rfl, Nat.zero_add, ← hj]
    simp [rcells, Rc.cells]) (by intro u hu; simp [rcells, Rc.cells] at hu; rcases hu with rfl | rfl | rfl | rfl | rfl | rfl | rfl <;> rfl)
theorem step_append_rec {ops : Array Oper} {o : Oper} {a : Act} {w : World} {K : Act → World → Prop} {Q : Exit → Act → World → Prop} {E : Prop}
    (hg : o.guard = none) (s x : Operand) (hop : o.op = Op.call { callee := Callee.builtin Builtin.append, args := #[s, x], argTypes := #[29, 29] }) (v xv : Value) (ts ks : List Rc) (r : Option Nat)
    (hs : a.eval s = v) (hx : a.eval x = xv) (hown : OwnR w v ts r) (hsrc : Src Tryd.prog 7 29 xv ks.length (rcells ks) w) (hlen : ts.length + ks.length ≤ 2199023255552) (hr0 : r ≠ none ∨ 0 < ks.length)
    (hK : ∀ v' w' g, OwnR w' v' (ts ++ ks) (some g) → w.grownBy w' r → (some g = r ∨ g = w.heap.size) → K (a.put o.dst v') w') :
    if Region.wanted o (yielded ops a.tmps) = true then Oper.wp Tryd.prog o a w K Q else E := by
  have hw : Region.wanted o (yielded ops a.tmps) = true := by simp [Region.wanted, hg]
  rw [if_pos hw]
  obtain ⟨v', w', g, hrun, h1, h2, h3⟩ := run_append_recs w o.type v xv ts ks r hown hsrc hlen hr0
  unfold Oper.wp
  simp [execOp, hop, resolve, invoke, builtin, hs, hx, hrun, Result.andThen]
  exact hK v' w' g h1 h2 h3
/-- The numbers that came in. -/
def GapsAt (W : World) (a : Option Addr) (n : Nat) : Prop := ∀ u m, Below W.heap.size W u → m < n → ∃ b off z, a = some ⟨b, off, none⟩ ∧ I64 z ∧ u.cell? ⟨b, off + m, none⟩ = some (.int .i64 z)
def onceKey : ByteArray := ⟨#[107]⟩
set_option maxHeartbeats 8000000 in
set_option maxRecDepth 100000 in
theorem onceWalk (a1 : Option Addr) (cap1 : Nat) (xs : List Tr) (a2 : Option Addr) (gl cap2 : Nat) (W : World) (hxs : TrsAt W (.slice a1 xs.length cap1) xs) (hga : GapsAt W a2 gl) (hgl : gl ≤ 140737488355328) (hF : Refs W) :
    Calls Tryd.prog 3 #[.slice a1 xs.length cap1, .slice a2 gl cap2] W fun e w' => e = .returned (.bool true) ∧ Below W.heap.size W w' := by
  have HRF : Hid (Refs W) := hF
  have hxl : xs.length ≤ 8796093022000 := by obtain ⟨_, _, _, h, _⟩ := hxs; exact h
  have HX : Hid (∀ u m, Below W.heap.size W u → m < xs.length → ∃ b off, a1 = some ⟨b, off, none⟩ ∧ Tr.CellsAt u b (off + m * 2) (xs.getD m Tr.zero) ∧ (xs.getD m Tr.zero).Ok) := fun u m hu hm => by
    obtain ⟨a, c, e, _, hok, hc⟩ := hxs
    obtain ⟨b, off, e2, hc⟩ := hc (by intro e; rw [e] at hm; simp at hm)
    simp at e
    exact ⟨b, off, by rw [e.1, e2], (hc m hm).block (hu.block _ (hc m hm).lt), hok _ (by simp [hm])⟩
  have HGA : Hid (GapsAt W a2 gl) := hga
  have HN : Hid (Calls Tryd.prog 4 #[.slice none 0 0] W fun e w' => ∃ t m, e = .returned (.tuple #[.pointer (some ⟨t, 0, none⟩), .int .i64 0]) ∧ NewAt W w' t m []) := newOf (.slice none 0 0) [] W ⟨none, 0, rfl, by simp, by simp, by simp⟩ TabL.nil
  clear hxs hga hF
  go_enter Tryd.func3, Tryd.ntmps3
  go_wp2_with fail
  refine HN.out.mono ?_
  rintro e w1 ⟨t, m0, rfl, hn⟩
  have HT0 : Hid (OnceW W w1 t m0 [] (.slice none 0 0) [] (fun _ => False) (.slice none 0 0) [] none) :=
    ⟨GAt.nil w1, hn.tab, fun _ _ h => h, OInv.start, List.Pairwise.nil, fun _ h => h.elim, fun _ h => h.elim, fun b hb => by
      rcases hb with rfl | e
      · exact hn.tb
      · exact hn.mb b e, OwnR.nil w1, fun b e => (by cases e), FInv.start, by simp, hn.below⟩
  clear hn HN
  go_wp2
  go_loopw [7, 8, 9, 10] (fun s7 s8 s9 i wr => ∃ (k : Nat) (m : Option Nat) (L : List Pr) (av : Option Addr) (cv : Nat) (G : List Gv) (P : Nat → Prop) (ar : Option Addr) (cr : Nat) (rs : List Rc) (rr : Option Nat) (off : Int), k ≤ xs.length ∧ k ≤ 10000 ∧ s7 = .slice av G.length cv ∧ s8 = .slice ar rs.length cr ∧ s9 = .int .i64 off ∧ i = .int .i64 k ∧ 0 ≤ off ∧ off ≤ 1000 * (k : Int) ∧ rs.length ≤ k ∧ Hid (OnceW W wr t m L (.slice av G.length cv) G P (.slice ar rs.length cr) rs rr))
    (fun _ _ _ i _ => xs.length - (intOf i).toNat)
  case atStart => exact ⟨0, m0, [], none, 0, [], _, none, 0, [], none, 0, Nat.zero_le _, by omega, rfl, rfl, rfl, rfl, by omega, by omega, by simp, HT0.out⟩
  case round =>
    clear HT0 m0
    obtain ⟨k, m, L, av, cv, G, P, ar, cr, rs, rr, off, hk, hk2, rfl, rfl, rfl, rfl, ho1, ho2, hrl, HW⟩ := hrel
    by_cases hlt : k < xs.length ∧ k < 10000
    · obtain ⟨hlt, hlt2⟩ := hlt
      obtain ⟨b, o, rfl, hc, hok⟩ := HX.out wr k HW.out.below hlt
      have HXC : Hid (∀ u, Below W.heap.size W u → Tr.CellsAt u b (o + k * 2) (xs.getD k Tr.zero)) := fun u hu => by
        obtain ⟨b', o', e, hc, _⟩ := HX.out u k hu hlt
        simp at e
        obtain ⟨rfl, rfl⟩ := e
        exact hc
      have HOK : Hid ((xs.getD k Tr.zero).Ok) := hok
      generalize xs.getD k Tr.zero = x at hc HXC HOK
      obtain ⟨pid, seq⟩ := x
      obtain ⟨c0, c1⟩ := hc
      have HI : Hid (I64 pid ∧ I64 seq) := ⟨HOK.out.pid, HOK.out.seq⟩
      have HXD : Hid (∀ u, Below W.heap.size W u → u.cell? ⟨b, o + k * 2, none⟩ = some (.int .i64 pid) ∧ u.cell? ⟨b, o + k * 2 + 1, none⟩ = some (.int .i64 seq)) := fun u hu => ⟨(HXC.out u hu).c0, (HXC.out u hu).c1⟩
      simp only at c0 c1
      have hki : (k : Int) < (xs.length : Int) := by omega
      have hki2 : (k : Int) < 10000 := by omega
      clear hok HOK HXC
      have hGl : G.length ≤ 64 := by rw [← HW.out.inv.len]; exact HW.out.inv.tab.len
      have HSE : Hid (∀ (off : Int), 0 ≤ off → off ≤ 20000000 → Calls Tryd.prog 5 #[.pointer (some ⟨t, 0, none⟩), .slice av G.length cv, .agg #[.int .i64 pid, .int .i64 seq], .int .i64 off] wr fun e w' => ∃ v' tk L' G' m' P', e = .returned (.tuple #[v', .bool tk, .bool true]) ∧ Sent P wr w' t m L pid seq off onceKey v' tk L' G' m' P') := fun off h1 h2 =>
        sendsOf P _ G t m L pid seq off onceKey wr HW.out.giv HW.out.ltP HW.out.tab HW.out.ap (HRF.out.later HW.out.below) HW.out.inv HW.out.lone HI.out.1 HI.out.2 ((okOff_iff off).mpr ⟨h1, by omega⟩) rfl
      by_cases hg : k < gl
      · have hgi : (k : Int) < (gl : Int) := by omega
        obtain ⟨bg, og, z, rfl, hz64, hzc⟩ := HGA.out wr k HW.out.below hg
        unfold I64 at hz64
        by_cases hzp : 0 < z
        · have ht0 : 0 ≤ z % 1000 := by omega
          have ht1 : z % 1000 < 1000 := by omega
          go_wp2_with fail
          generalize hoff2 : off + z % 1000 = off2
          have hq1 : 0 ≤ off2 := by omega
          have hq2 : off2 ≤ 1000 * (k : Int) + 999 := by omega
          clear ho1 ho2 ht0 ht1 hzc hoff2
          refine (HSE.out off2 (by omega) (by omega)).mono ?_
          rintro e w2 ⟨v', tk, L', G', m', P', rfl, hsent⟩
          have HS : Hid (OnceS W w2 t m' L L' v' G' P' (.slice ar rs.length cr) rs rr) := HW.out.sent hsent
          have HTK : Hid (tk = true ∨ (pid = 0 ∧ seq = 0) → passE L (onceR pid seq off2 onceKey) = 0 ∧ passL L (onceR pid seq off2 onceKey) = L') := hsent.took
          have HNT : Hid (tk = false → L' = L) := hsent.not
          obtain ⟨d0, d1⟩ := HXD.out w2 HS.out.below
          obtain ⟨av2, cv2, rfl⟩ : ∃ a c, v' = .slice a G'.length c := HS.out.giv.shape
          clear hsent HW c0 c1 HSE
          cases tk with
          | true =>
            have HTK2 : Hid (passE L (onceR pid seq off2 onceKey) = 0 ∧ passL L (onceR pid seq off2 onceKey) = L') := HTK.out (.inl rfl)
            clear HTK HNT
            have HOW : Hid (∀ u, Below w2.heap.size w2 u → OwnR u (.slice ar rs.length cr) rs rr) := fun u hu => HS.out.row.later hu
            have HSR : Hid (Src Tryd.prog 7 29 (.slice (some ⟨w2.heap.size, 0, none⟩) 1 1) [onceR pid seq off2 onceKey].length (rcells [onceR pid seq off2 onceKey]) (w2.drew.alloc (.cells #[.int .i64 1, .int .i64 off2, .int .i64 0, .int .i64 pid, .int .i64 seq, .string ⟨#[107]⟩, .string ByteArray.empty] 35))) := src_rec1 w2.drew (onceR pid seq off2 onceKey)
            have HLA : Hid (∀ v7 w7 g7, OwnR w7 v7 (rs ++ [onceR pid seq off2 onceKey]) (some g7) → (w2.drew.alloc (.cells #[.int .i64 1, .int .i64 off2, .int .i64 0, .int .i64 pid, .int .i64 seq, .string ⟨#[107]⟩, .string ByteArray.empty] 35)).grownBy w7 rr → (some g7 = rr ∨ g7 = (w2.drew.alloc (.cells #[.int .i64 1, .int .i64 off2, .int .i64 0, .int .i64 pid, .int .i64 seq, .string ⟨#[107]⟩, .string ByteArray.empty] 35)).heap.size) → ∃ a7 c7, v7 = .slice a7 (rs.length + 1) c7 ∧ OnceW W w7 t m' L' (.slice av2 G'.length cv2) G' P' (.slice a7 (rs ++ [onceR pid seq off2 onceKey]).length c7) (rs ++ [onceR pid seq off2 onceKey]) (some g7)) := fun v7 w7 g7 ho hg hr => by
              obtain ⟨a7, c7, e, _, _⟩ := ho.shape
              refine ⟨a7, c7, by rw [e]; simp, ?_⟩
              rw [e] at ho
              refine HS.out.laid (onceR_ok HI.out.1 HI.out.2 (by unfold I64; omega) rfl) HTK2.out.1 HTK2.out.2 (((Below.refl _ w2).drew).alloc (Nat.le_refl _) _) ho hg ?_
              rcases hr with e | e
              · exact .inl e
              · exact .inr (by rw [e]; exact Nat.le_refl _)
            clear HS HTK2
            go_wp2_with fail
            go_region_law (refine step_append_rec rfl (.tmp 89) (.tmp 102) rfl (.slice ar rs.length cr) (.slice (some ⟨w2.heap.size, 0, none⟩) 1 1) rs [onceR pid seq off2 onceKey] rr (by first | rfl | simp [Act.eval, Act.put]) (by first | rfl | simp [Act.eval, Act.put]) (HOW.out _ (((Below.refl _ w2).drew).alloc (Nat.le_refl _) _)) HSR.out (by simp; omega) (.inr (by simp)) ?_
                           intro v7 w7 g7 ho7 hg7 hr7
                           obtain ⟨a7, c7, rfl, h7⟩ := HLA.out v7 w7 g7 ho7 hg7 hr7
                           have H7 : Hid (OnceW W w7 t m' L' (.slice av2 G'.length cv2) G' P' (.slice a7 (rs ++ [onceR pid seq off2 onceKey]).length c7) (rs ++ [onceR pid seq off2 onceKey]) (some g7)) := h7
                           clear ho7 hg7 hr7 h7)
            all_goals
              go_wp2
              go_roundw
              case rel => exact ⟨k + 1, m', L', av2, cv2, G', P', a7, c7, rs ++ [onceR pid seq off2 onceKey], some g7, off2 + 1, by omega, by omega, rfl, by simp, by go_num, by go_num, by omega, by omega, by simp; omega, H7.out⟩
              case measure => simp [intOf]; omega
          | false =>
            by_cases hz : pid = 0 ∧ seq = 0
            · obtain ⟨rfl, rfl⟩ := hz
              have HTK2 : Hid (passE L (onceR 0 0 off2 onceKey) = 0 ∧ passL L (onceR 0 0 off2 onceKey) = L') := HTK.out (.inr ⟨rfl, rfl⟩)
              clear HTK HNT
              have HOW : Hid (∀ u, Below w2.heap.size w2 u → OwnR u (.slice ar rs.length cr) rs rr) := fun u hu => HS.out.row.later hu
              have HSR : Hid (Src Tryd.prog 7 29 (.slice (some ⟨w2.heap.size, 0, none⟩) 1 1) [onceR 0 0 off2 onceKey].length (rcells [onceR 0 0 off2 onceKey]) (w2.drew.alloc (.cells #[.int .i64 1, .int .i64 off2, .int .i64 0, .int .i64 0, .int .i64 0, .string ⟨#[107]⟩, .string ByteArray.empty] 35))) := src_rec1 w2.drew (onceR 0 0 off2 onceKey)
              have HLA : Hid (∀ v7 w7 g7, OwnR w7 v7 (rs ++ [onceR 0 0 off2 onceKey]) (some g7) → (w2.drew.alloc (.cells #[.int .i64 1, .int .i64 off2, .int .i64 0, .int .i64 0, .int .i64 0, .string ⟨#[107]⟩, .string ByteArray.empty] 35)).grownBy w7 rr → (some g7 = rr ∨ g7 = (w2.drew.alloc (.cells #[.int .i64 1, .int .i64 off2, .int .i64 0, .int .i64 0, .int .i64 0, .string ⟨#[107]⟩, .string ByteArray.empty] 35)).heap.size) → ∃ a7 c7, v7 = .slice a7 (rs.length + 1) c7 ∧ OnceW W w7 t m' L' (.slice av2 G'.length cv2) G' P' (.slice a7 (rs ++ [onceR 0 0 off2 onceKey]).length c7) (rs ++ [onceR 0 0 off2 onceKey]) (some g7)) := fun v7 w7 g7 ho hg hr => by
                obtain ⟨a7, c7, e, _, _⟩ := ho.shape
                refine ⟨a7, c7, by rw [e]; simp, ?_⟩
                rw [e] at ho
                refine HS.out.laid (onceR_ok HI.out.1 HI.out.2 (by unfold I64; omega) rfl) HTK2.out.1 HTK2.out.2 (((Below.refl _ w2).drew).alloc (Nat.le_refl _) _) ho hg ?_
                rcases hr with e | e
                · exact .inl e
                · exact .inr (by rw [e]; exact Nat.le_refl _)
              clear HS HTK2
              go_wp2_with fail
              go_region_law (refine step_append_rec rfl (.tmp 89) (.tmp 102) rfl (.slice ar rs.length cr) (.slice (some ⟨w2.heap.size, 0, none⟩) 1 1) rs [onceR 0 0 off2 onceKey] rr (by first | rfl | simp [Act.eval, Act.put]) (by first | rfl | simp [Act.eval, Act.put]) (HOW.out _ (((Below.refl _ w2).drew).alloc (Nat.le_refl _) _)) HSR.out (by simp; omega) (.inr (by simp)) ?_
                             intro v7 w7 g7 ho7 hg7 hr7
                             obtain ⟨a7, c7, rfl, h7⟩ := HLA.out v7 w7 g7 ho7 hg7 hr7
                             have H7 : Hid (OnceW W w7 t m' L' (.slice av2 G'.length cv2) G' P' (.slice a7 (rs ++ [onceR 0 0 off2 onceKey]).length c7) (rs ++ [onceR 0 0 off2 onceKey]) (some g7)) := h7
                             clear ho7 hg7 hr7 h7)
              all_goals
                go_wp2
                go_roundw
                case rel => exact ⟨k + 1, m', L', av2, cv2, G', P', a7, c7, rs ++ [onceR 0 0 off2 onceKey], some g7, off2 + 1, by omega, by omega, rfl, by simp, by go_num, by go_num, by omega, by omega, by simp; omega, H7.out⟩
                case measure => simp [intOf]; omega
            · have hor : pid = 0 → (seq == 0) = false := fun e => by
                have : seq ≠ 0 := fun e2 => hz ⟨e, e2⟩
                simpa using this
              have HW2 : Hid (OnceW W w2 t m' L (.slice av2 G'.length cv2) G' P' (.slice ar rs.length cr) rs rr) := HS.out.same (HNT.out rfl)
              clear HTK HNT HS hz
              by_cases hp0 : pid = 0
              · have hq0 := hor hp0
                clear hor
                subst hp0
                go_wp2
                go_roundw
                case rel => exact ⟨k + 1, m', L, av2, cv2, G', P', ar, cr, rs, rr, off2, by omega, by omega, rfl, rfl, rfl, by go_num, by omega, by omega, by omega, HW2.out⟩
                case measure => simp [intOf]; omega
              · have hp0' : (pid == 0) = false := by simpa using hp0
                clear hor
                go_wp2
                go_roundw
                case rel => exact ⟨k + 1, m', L, av2, cv2, G', P', ar, cr, rs, rr, off2, by omega, by omega, rfl, rfl, rfl, by go_num, by omega, by omega, by omega, HW2.out⟩
                case measure => simp [intOf]; omega
        · obtain ⟨off2, hoff2⟩ : ∃ z, z = off := ⟨_, rfl⟩
          subst hoff2
          have hzp' : ¬ 0 < z := hzp
          go_wp2_with fail
          refine (HSE.out off2 (by omega) (by omega)).mono ?_
          rintro e w2 ⟨v', tk, L', G', m', P', rfl, hsent⟩
          have HS : Hid (OnceS W w2 t m' L L' v' G' P' (.slice ar rs.length cr) rs rr) := HW.out.sent hsent
          have HTK : Hid (tk = true ∨ (pid = 0 ∧ seq = 0) → passE L (onceR pid seq off2 onceKey) = 0 ∧ passL L (onceR pid seq off2 onceKey) = L') := hsent.took
          have HNT : Hid (tk = false → L' = L) := hsent.not
          obtain ⟨d0, d1⟩ := HXD.out w2 HS.out.below
          obtain ⟨av2, cv2, rfl⟩ : ∃ a c, v' = .slice a G'.length c := HS.out.giv.shape
          clear hsent HW c0 c1 HSE
          cases tk with
          | true =>
            have HTK2 : Hid (passE L (onceR pid seq off2 onceKey) = 0 ∧ passL L (onceR pid seq off2 onceKey) = L') := HTK.out (.inl rfl)
            clear HTK HNT
            have HOW : Hid (∀ u, Below w2.heap.size w2 u → OwnR u (.slice ar rs.length cr) rs rr) := fun u hu => HS.out.row.later hu
            have HSR : Hid (Src Tryd.prog 7 29 (.slice (some ⟨w2.heap.size, 0, none⟩) 1 1) [onceR pid seq off2 onceKey].length (rcells [onceR pid seq off2 onceKey]) (w2.drew.alloc (.cells #[.int .i64 1, .int .i64 off2, .int .i64 0, .int .i64 pid, .int .i64 seq, .string ⟨#[107]⟩, .string ByteArray.empty] 35))) := src_rec1 w2.drew (onceR pid seq off2 onceKey)
            have HLA : Hid (∀ v7 w7 g7, OwnR w7 v7 (rs ++ [onceR pid seq off2 onceKey]) (some g7) → (w2.drew.alloc (.cells #[.int .i64 1, .int .i64 off2, .int .i64 0, .int .i64 pid, .int .i64 seq, .string ⟨#[107]⟩, .string ByteArray.empty] 35)).grownBy w7 rr → (some g7 = rr ∨ g7 = (w2.drew.alloc (.cells #[.int .i64 1, .int .i64 off2, .int .i64 0, .int .i64 pid, .int .i64 seq, .string ⟨#[107]⟩, .string ByteArray.empty] 35)).heap.size) → ∃ a7 c7, v7 = .slice a7 (rs.length + 1) c7 ∧ OnceW W w7 t m' L' (.slice av2 G'.length cv2) G' P' (.slice a7 (rs ++ [onceR pid seq off2 onceKey]).length c7) (rs ++ [onceR pid seq off2 onceKey]) (some g7)) := fun v7 w7 g7 ho hg hr => by
              obtain ⟨a7, c7, e, _, _⟩ := ho.shape
              refine ⟨a7, c7, by rw [e]; simp, ?_⟩
              rw [e] at ho
              refine HS.out.laid (onceR_ok HI.out.1 HI.out.2 (by unfold I64; omega) rfl) HTK2.out.1 HTK2.out.2 (((Below.refl _ w2).drew).alloc (Nat.le_refl _) _) ho hg ?_
              rcases hr with e | e
              · exact .inl e
              · exact .inr (by rw [e]; exact Nat.le_refl _)
            clear HS HTK2
            go_wp2_with fail
            go_region_law (refine step_append_rec rfl (.tmp 89) (.tmp 102) rfl (.slice ar rs.length cr) (.slice (some ⟨w2.heap.size, 0, none⟩) 1 1) rs [onceR pid seq off2 onceKey] rr (by first | rfl | simp [Act.eval, Act.put]) (by first | rfl | simp [Act.eval, Act.put]) (HOW.out _ (((Below.refl _ w2).drew).alloc (Nat.le_refl _) _)) HSR.out (by simp; omega) (.inr (by simp)) ?_
                           intro v7 w7 g7 ho7 hg7 hr7
                           obtain ⟨a7, c7, rfl, h7⟩ := HLA.out v7 w7 g7 ho7 hg7 hr7
                           have H7 : Hid (OnceW W w7 t m' L' (.slice av2 G'.length cv2) G' P' (.slice a7 (rs ++ [onceR pid seq off2 onceKey]).length c7) (rs ++ [onceR pid seq off2 onceKey]) (some g7)) := h7
                           clear ho7 hg7 hr7 h7)
            all_goals
              go_wp2
              go_roundw
              case rel => exact ⟨k + 1, m', L', av2, cv2, G', P', a7, c7, rs ++ [onceR pid seq off2 onceKey], some g7, off2 + 1, by omega, by omega, rfl, by simp, by go_num, by go_num, by omega, by omega, by simp; omega, H7.out⟩
              case measure => simp [intOf]; omega
          | false =>
            by_cases hz : pid = 0 ∧ seq = 0
            · obtain ⟨rfl, rfl⟩ := hz
              have HTK2 : Hid (passE L (onceR 0 0 off2 onceKey) = 0 ∧ passL L (onceR 0 0 off2 onceKey) = L') := HTK.out (.inr ⟨rfl, rfl⟩)
              clear HTK HNT
              have HOW : Hid (∀ u, Below w2.heap.size w2 u → OwnR u (.slice ar rs.length cr) rs rr) := fun u hu => HS.out.row.later hu
              have HSR : Hid (Src Tryd.prog 7 29 (.slice (some ⟨w2.heap.size, 0, none⟩) 1 1) [onceR 0 0 off2 onceKey].length (rcells [onceR 0 0 off2 onceKey]) (w2.drew.alloc (.cells #[.int .i64 1, .int .i64 off2, .int .i64 0, .int .i64 0, .int .i64 0, .string ⟨#[107]⟩, .string ByteArray.empty] 35))) := src_rec1 w2.drew (onceR 0 0 off2 onceKey)
              have HLA : Hid (∀ v7 w7 g7, OwnR w7 v7 (rs ++ [onceR 0 0 off2 onceKey]) (some g7) → (w2.drew.alloc (.cells #[.int .i64 1, .int .i64 off2, .int .i64 0, .int .i64 0, .int .i64 0, .string ⟨#[107]⟩, .string ByteArray.empty] 35)).grownBy w7 rr → (some g7 = rr ∨ g7 = (w2.drew.alloc (.cells #[.int .i64 1, .int .i64 off2, .int .i64 0, .int .i64 0, .int .i64 0, .string ⟨#[107]⟩, .string ByteArray.empty] 35)).heap.size) → ∃ a7 c7, v7 = .slice a7 (rs.length + 1) c7 ∧ OnceW W w7 t m' L' (.slice av2 G'.length cv2) G' P' (.slice a7 (rs ++ [onceR 0 0 off2 onceKey]).length c7) (rs ++ [onceR 0 0 off2 onceKey]) (some g7)) := fun v7 w7 g7 ho hg hr => by
                obtain ⟨a7, c7, e, _, _⟩ := ho.shape
                refine ⟨a7, c7, by rw [e]; simp, ?_⟩
                rw [e] at ho
                refine HS.out.laid (onceR_ok HI.out.1 HI.out.2 (by unfold I64; omega) rfl) HTK2.out.1 HTK2.out.2 (((Below.refl _ w2).drew).alloc (Nat.le_refl _) _) ho hg ?_
                rcases hr with e | e
                · exact .inl e
                · exact .inr (by rw [e]; exact Nat.le_refl _)
              clear HS HTK2
              go_wp2_with fail
              go_region_law (refine step_append_rec rfl (.tmp 89) (.tmp 102) rfl (.slice ar rs.length cr) (.slice (some ⟨w2.heap.size, 0, none⟩) 1 1) rs [onceR 0 0 off2 onceKey] rr (by first | rfl | simp [Act.eval, Act.put]) (by first | rfl | simp [Act.eval, Act.put]) (HOW.out _ (((Below.refl _ w2).drew).alloc (Nat.le_refl _) _)) HSR.out (by simp; omega) (.inr (by simp)) ?_
                             intro v7 w7 g7 ho7 hg7 hr7
                             obtain ⟨a7, c7, rfl, h7⟩ := HLA.out v7 w7 g7 ho7 hg7 hr7
                             have H7 : Hid (OnceW W w7 t m' L' (.slice av2 G'.length cv2) G' P' (.slice a7 (rs ++ [onceR 0 0 off2 onceKey]).length c7) (rs ++ [onceR 0 0 off2 onceKey]) (some g7)) := h7
                             clear ho7 hg7 hr7 h7)
              all_goals
                go_wp2
                go_roundw
                case rel => exact ⟨k + 1, m', L', av2, cv2, G', P', a7, c7, rs ++ [onceR 0 0 off2 onceKey], some g7, off2 + 1, by omega, by omega, rfl, by simp, by go_num, by go_num, by omega, by omega, by simp; omega, H7.out⟩
                case measure => simp [intOf]; omega
            · have hor : pid = 0 → (seq == 0) = false := fun e => by
                have : seq ≠ 0 := fun e2 => hz ⟨e, e2⟩
                simpa using this
              have HW2 : Hid (OnceW W w2 t m' L (.slice av2 G'.length cv2) G' P' (.slice ar rs.length cr) rs rr) := HS.out.same (HNT.out rfl)
              clear HTK HNT HS hz
              by_cases hp0 : pid = 0
              · have hq0 := hor hp0
                clear hor
                subst hp0
                go_wp2
                go_roundw
                case rel => exact ⟨k + 1, m', L, av2, cv2, G', P', ar, cr, rs, rr, off2, by omega, by omega, rfl, rfl, rfl, by go_num, by omega, by omega, by omega, HW2.out⟩
                case measure => simp [intOf]; omega
              · have hp0' : (pid == 0) = false := by simpa using hp0
                clear hor
                go_wp2
                go_roundw
                case rel => exact ⟨k + 1, m', L, av2, cv2, G', P', ar, cr, rs, rr, off2, by omega, by omega, rfl, rfl, rfl, by go_num, by omega, by omega, by omega, HW2.out⟩
                case measure => simp [intOf]; omega
      · have hgi : ¬ (k : Int) < (gl : Int) := by omega
        obtain ⟨off2, hoff2⟩ : ∃ z, z = off := ⟨_, rfl⟩
        subst hoff2
        go_wp2_with fail
        refine (HSE.out off2 (by omega) (by omega)).mono ?_
        rintro e w2 ⟨v', tk, L', G', m', P', rfl, hsent⟩
        have HS : Hid (OnceS W w2 t m' L L' v' G' P' (.slice ar rs.length cr) rs rr) := HW.out.sent hsent
        have HTK : Hid (tk = true ∨ (pid = 0 ∧ seq = 0) → passE L (onceR pid seq off2 onceKey) = 0 ∧ passL L (onceR pid seq off2 onceKey) = L') := hsent.took
        have HNT : Hid (tk = false → L' = L) := hsent.not
        obtain ⟨d0, d1⟩ := HXD.out w2 HS.out.below
        obtain ⟨av2, cv2, rfl⟩ : ∃ a c, v' = .slice a G'.length c := HS.out.giv.shape
        clear hsent HW c0 c1 HSE
        cases tk with
        | true =>
          have HTK2 : Hid (passE L (onceR pid seq off2 onceKey) = 0 ∧ passL L (onceR pid seq off2 onceKey) = L') := HTK.out (.inl rfl)
          clear HTK HNT
          have HOW : Hid (∀ u, Below w2.heap.size w2 u → OwnR u (.slice ar rs.length cr) rs rr) := fun u hu => HS.out.row.later hu
          have HSR : Hid (Src Tryd.prog 7 29 (.slice (some ⟨w2.heap.size, 0, none⟩) 1 1) [onceR pid seq off2 onceKey].length (rcells [onceR pid seq off2 onceKey]) (w2.drew.alloc (.cells #[.int .i64 1, .int .i64 off2, .int .i64 0, .int .i64 pid, .int .i64 seq, .string ⟨#[107]⟩, .string ByteArray.empty] 35))) := src_rec1 w2.drew (onceR pid seq off2 onceKey)
          have HLA : Hid (∀ v7 w7 g7, OwnR w7 v7 (rs ++ [onceR pid seq off2 onceKey]) (some g7) → (w2.drew.alloc (.cells #[.int .i64 1, .int .i64 off2, .int .i64 0, .int .i64 pid, .int .i64 seq, .string ⟨#[107]⟩, .string ByteArray.empty] 35)).grownBy w7 rr → (some g7 = rr ∨ g7 = (w2.drew.alloc (.cells #[.int .i64 1, .int .i64 off2, .int .i64 0, .int .i64 pid, .int .i64 seq, .string ⟨#[107]⟩, .string ByteArray.empty] 35)).heap.size) → ∃ a7 c7, v7 = .slice a7 (rs.length + 1) c7 ∧ OnceW W w7 t m' L' (.slice av2 G'.length cv2) G' P' (.slice a7 (rs ++ [onceR pid seq off2 onceKey]).length c7) (rs ++ [onceR pid seq off2 onceKey]) (some g7)) := fun v7 w7 g7 ho hg hr => by
            obtain ⟨a7, c7, e, _, _⟩ := ho.shape
            refine ⟨a7, c7, by rw [e]; simp, ?_⟩
            rw [e] at ho
            refine HS.out.laid (onceR_ok HI.out.1 HI.out.2 (by unfold I64; omega) rfl) HTK2.out.1 HTK2.out.2 (((Below.refl _ w2).drew).alloc (Nat.le_refl _) _) ho hg ?_
            rcases hr with e | e
            · exact .inl e
            · exact .inr (by rw [e]; exact Nat.le_refl _)
          clear HS HTK2
          go_wp2_with fail
          go_region_law (refine step_append_rec rfl (.tmp 89) (.tmp 102) rfl (.slice ar rs.length cr) (.slice (some ⟨w2.heap.size, 0, none⟩) 1 1) rs [onceR pid seq off2 onceKey] rr (by first | rfl | simp [Act.eval, Act.put]) (by first | rfl | simp [Act.eval, Act.put]) (HOW.out _ (((Below.refl _ w2).drew).alloc (Nat.le_refl _) _)) HSR.out (by simp; omega) (.inr (by simp)) ?_
                         intro v7 w7 g7 ho7 hg7 hr7
                         obtain ⟨a7, c7, rfl, h7⟩ := HLA.out v7 w7 g7 ho7 hg7 hr7
                         have H7 : Hid (OnceW W w7 t m' L' (.slice av2 G'.length cv2) G' P' (.slice a7 (rs ++ [onceR pid seq off2 onceKey]).length c7) (rs ++ [onceR pid seq off2 onceKey]) (some g7)) := h7
                         clear ho7 hg7 hr7 h7)
          all_goals
            go_wp2
            go_roundw
            case rel => exact ⟨k + 1, m', L', av2, cv2, G', P', a7, c7, rs ++ [onceR pid seq off2 onceKey], some g7, off2 + 1, by omega, by omega, rfl, by simp, by go_num, by go_num, by omega, by omega, by simp; omega, H7.out⟩
            case measure => simp [intOf]; omega
        | false =>
          by_cases hz : pid = 0 ∧ seq = 0
          · obtain ⟨rfl, rfl⟩ := hz
            have HTK2 : Hid (passE L (onceR 0 0 off2 onceKey) = 0 ∧ passL L (onceR 0 0 off2 onceKey) = L') := HTK.out (.inr ⟨rfl, rfl⟩)
            clear HTK HNT
            have HOW : Hid (∀ u, Below w2.heap.size w2 u → OwnR u (.slice ar rs.length cr) rs rr) := fun u hu => HS.out.row.later hu
            have HSR : Hid (Src Tryd.prog 7 29 (.slice (some ⟨w2.heap.size, 0, none⟩) 1 1) [onceR 0 0 off2 onceKey].length (rcells [onceR 0 0 off2 onceKey]) (w2.drew.alloc (.cells #[.int .i64 1, .int .i64 off2, .int .i64 0, .int .i64 0, .int .i64 0, .string ⟨#[107]⟩, .string ByteArray.empty] 35))) := src_rec1 w2.drew (onceR 0 0 off2 onceKey)
            have HLA : Hid (∀ v7 w7 g7, OwnR w7 v7 (rs ++ [onceR 0 0 off2 onceKey]) (some g7) → (w2.drew.alloc (.cells #[.int .i64 1, .int .i64 off2, .int .i64 0, .int .i64 0, .int .i64 0, .string ⟨#[107]⟩, .string ByteArray.empty] 35)).grownBy w7 rr → (some g7 = rr ∨ g7 = (w2.drew.alloc (.cells #[.int .i64 1, .int .i64 off2, .int .i64 0, .int .i64 0, .int .i64 0, .string ⟨#[107]⟩, .string ByteArray.empty] 35)).heap.size) → ∃ a7 c7, v7 = .slice a7 (rs.length + 1) c7 ∧ OnceW W w7 t m' L' (.slice av2 G'.length cv2) G' P' (.slice a7 (rs ++ [onceR 0 0 off2 onceKey]).length c7) (rs ++ [onceR 0 0 off2 onceKey]) (some g7)) := fun v7 w7 g7 ho hg hr => by
              obtain ⟨a7, c7, e, _, _⟩ := ho.shape
              refine ⟨a7, c7, by rw [e]; simp, ?_⟩
              rw [e] at ho
              refine HS.out.laid (onceR_ok HI.out.1 HI.out.2 (by unfold I64; omega) rfl) HTK2.out.1 HTK2.out.2 (((Below.refl _ w2).drew).alloc (Nat.le_refl _) _) ho hg ?_
              rcases hr with e | e
              · exact .inl e
              · exact .inr (by rw [e]; exact Nat.le_refl _)
            clear HS HTK2
            go_wp2_with fail
            go_region_law (refine step_append_rec rfl (.tmp 89) (.tmp 102) rfl (.slice ar rs.length cr) (.slice (some ⟨w2.heap.size, 0, none⟩) 1 1) rs [onceR 0 0 off2 onceKey] rr (by first | rfl | simp [Act.eval, Act.put]) (by first | rfl | simp [Act.eval, Act.put]) (HOW.out _ (((Below.refl _ w2).drew).alloc (Nat.le_refl _) _)) HSR.out (by simp; omega) (.inr (by simp)) ?_
                           intro v7 w7 g7 ho7 hg7 hr7
                           obtain ⟨a7, c7, rfl, h7⟩ := HLA.out v7 w7 g7 ho7 hg7 hr7
                           have H7 : Hid (OnceW W w7 t m' L' (.slice av2 G'.length cv2) G' P' (.slice a7 (rs ++ [onceR 0 0 off2 onceKey]).length c7) (rs ++ [onceR 0 0 off2 onceKey]) (some g7)) := h7
                           clear ho7 hg7 hr7 h7)
            all_goals
              go_wp2
              go_roundw
              case rel => exact ⟨k + 1, m', L', av2, cv2, G', P', a7, c7, rs ++ [onceR 0 0 off2 onceKey], some g7, off2 + 1, by omega, by omega, rfl, by simp, by go_num, by go_num, by omega, by omega, by simp; omega, H7.out⟩
              case measure => simp [intOf]; omega
          · have hor : pid = 0 → (seq == 0) = false := fun e => by
              have : seq ≠ 0 := fun e2 => hz ⟨e, e2⟩
              simpa using this
            have HW2 : Hid (OnceW W w2 t m' L (.slice av2 G'.length cv2) G' P' (.slice ar rs.length cr) rs rr) := HS.out.same (HNT.out rfl)
            clear HTK HNT HS hz
            by_cases hp0 : pid = 0
            · have hq0 := hor hp0
              clear hor
              subst hp0
              go_wp2
              go_roundw
              case rel => exact ⟨k + 1, m', L, av2, cv2, G', P', ar, cr, rs, rr, off2, by omega, by omega, rfl, rfl, rfl, by go_num, by omega, by omega, by omega, HW2.out⟩
              case measure => simp [intOf]; omega
            · have hp0' : (pid == 0) = false := by simpa using hp0
              clear hor
              go_wp2
              go_roundw
              case rel => exact ⟨k + 1, m', L, av2, cv2, G', P', ar, cr, rs, rr, off2, by omega, by omega, rfl, rfl, rfl, by go_num, by omega, by omega, by omega, HW2.out⟩
              case measure => simp [intOf]; omega

    · have hend : ¬ ((k : Int) < (xs.length : Int) ∧ (k : Int) < 10000) := by omega
      have hw3 : (k : Int) < (xs.length : Int) → ¬ (k : Int) < 10000 := fun h1 h2 => hend ⟨h1, h2⟩
      have HFO : Hid (Calls Tryd.prog 6 #[.slice none 0 0, .slice ar rs.length cr] wr fun e w' => ∃ z r, e = .returned (.tuple #[z, .int .i64 0]) ∧ OwnPr w' z L r ∧ Below wr.heap.size wr w') := by
        have hrd : RecsAt wr (.slice ar rs.length cr) rs := HW.out.row.recs (by omega) HW.out.ok
        refine (foldOf (.slice none 0 0) [] (.slice ar rs.length cr) rs wr ⟨none, 0, rfl, by simp, by simp, by simp⟩ hrd).mono ?_
        rintro e w' ⟨z, r, rfl, hf⟩
        have e1 : fE [] rs = 0 := by rw [fE_tab TabL.nil]; exact HW.out.fold.1
        have e2 : fL [] rs = L := (fE_ok e1).2.2.1.trans HW.out.fold.2
        refine ⟨z, r, by rw [e1], by rw [← e2]; exact hf.row, hf.below⟩
      have HTL : Hid (TabL L) := HW.out.inv.tab
      have HLG : Hid (L.length = G.length) := HW.out.inv.len
      have hGl : G.length ≤ 64 := by rw [← HLG.out]; exact HTL.out.len
      have HOI : Hid (OInv L G) := HW.out.inv
      by_cases hk3 : k < xs.length
      · have hk4 : ¬ (k : Int) < 10000 := hw3 (by omega)
        have hk3' : (k : Int) < (xs.length : Int) := by omega
        clear hend hw3
        go_wp2_with fail
        refine HFO.out.mono ?_
        rintro e w2 ⟨z2, r2, rfl, ho2', hb2⟩
        have HW2 : Hid (OnceW W w2 t m L (.slice av G.length cv) G P (.slice ar rs.length cr) rs rr) := HW.out.later hb2
        have HP2 : Hid (PrsAt w2 z2 L) := ho2'.reads HTL.out
        clear ho2' hb2 HFO HW
        go_wp2_with fail
        refine (listOf t m L w2 HW2.out.tab).mono ?_
        rintro e w3 ⟨z3, r3, rfl, hl3⟩
        have HW3 : Hid (OnceW W w3 t m L (.slice av G.length cv) G P (.slice ar rs.length cr) rs rr) := HW2.out.later hl3.below
        have HP3 : Hid (PrsAt w3 z2 L ∧ PrsAt w3 z3 L) := ⟨HP2.out.later hl3.below, hl3.row.reads HTL.out⟩
        obtain ⟨a3, c3, rfl⟩ : ∃ a c, z3 = .slice a G.length c := by
          obtain ⟨a, c, e, _⟩ := hl3.row.shape
          rw [HLG.out] at e
          exact ⟨a, c, e⟩
        clear hl3 HP2 HW2
        go_wp2_with fail
        refine (sameB z2 (.slice a3 G.length c3) L w3 HP3.out.1 HP3.out.2).mono ?_
        rintro e w4 ⟨rfl, hb4⟩
        have HW4 : Hid (OnceW W w4 t m L (.slice av G.length cv) G P (.slice ar rs.length cr) rs rr) := HW3.out.later hb4
        have HP4 : Hid (PrsAt w4 (.slice a3 G.length c3) L) := HP3.out.2.later hb4
        clear hb4 HP3 HW3
        have HC4 : Hid (∀ u j, Below w4.heap.size w4 u → j < L.length → ∃ b o, a3 = some ⟨b, o, none⟩ ∧ Pr.CellsAt u b (o + j * 3) (L.getD j Pr.zero)) := fun u j hu hj => by
          obtain ⟨a, c, e, _, _, hcc⟩ := HP4.out
          obtain ⟨b, o, e2, hcc⟩ := hcc (by intro e; rw [e] at hj; simp at hj)
          simp at e
          exact ⟨b, o, by rw [e.1, e2], (hcc j hj).block (hu.block _ (hcc j hj).lt)⟩
        have HGO : Hid (∀ u i g, Below w4.heap.size w4 u → G[i]? = some g → ∃ b a' cap', av = some ⟨b, 0, none⟩ ∧ GOne u b i g a' cap') := fun u i g hu hi => by
          obtain ⟨a, cap, e, hone⟩ := (HW4.out.giv.later hu).one
          simp at e
          obtain ⟨b, a', cap', e2, hh⟩ := hone i g hi
          exact ⟨b, a', cap', by rw [e.1, e2], hh⟩
        have HBE : Hid (∀ u, Below w4.heap.size w4 u → Below W.heap.size W u) := fun u hu => below_step HW4.out.below hu
        have HPL : Hid (∀ u pid, Below w4.heap.size w4 u → Calls Tryd.prog 9 #[.slice av G.length cv, .int .i64 pid] u fun e w' => e = .returned (.int .i64 (plc G pid)) ∧ w' = u) := fun u pid hu => placeOf P _ G pid u (HW4.out.giv.later hu) hGl
        have HBK : Hid (∀ j, j < L.length → ∃ (i : Nat) (g : Gv), plc G (L.getD j Pr.zero).pid = (i : Int) ∧ i < G.length ∧ G[i]? = some g ∧ g.offs ≠ [] ∧ g.offs.length ≤ 1099511627775 ∧ (L.getD j Pr.zero).seq = (g.offs.length : Int) ∧ (L.getD j Pr.zero).off = g.offs.getLastD 0) := fun j hj => by
          have hm : L.getD j Pr.zero ∈ L := by simp [hj]
          obtain ⟨i, g, h1, h2, h3, h4, h5⟩ := HOI.out.back hm
          have hr := (HTL.out.right _ hm).s2
          exact ⟨i, g, by unfold plc; rw [h1], (List.getElem?_eq_some_iff.mp h2).1, h2, h3, by omega, h4, h5⟩
        have HRI : Hid (∀ j, 0 < j → j < L.length → (L.getD (j - 1) Pr.zero).pid < (L.getD j Pr.zero).pid) := fun j h0 hj => by
          have := List.pairwise_iff_getElem.mp HTL.out.rise (j - 1) j (by omega) hj (by omega)
          simpa [List.getD_eq_getElem?_getD, hj, show j - 1 < L.length by omega] using this
        clear HP4 HW4 HOI HTL
        go_wp2
        go_loopw [17] (fun i wr => ∃ (j : Nat), j ≤ G.length ∧ i = .int .i64 j ∧ Hid (Below w4.heap.size w4 wr))
          (fun i _ => G.length - (intOf i).toNat)
        case atStart => exact ⟨0, Nat.zero_le _, rfl, Below.refl _ _⟩
        case round =>
          obtain ⟨j, hj, rfl, HBW⟩ := hrel
          by_cases hlt : j < G.length
          · have hjl : j < L.length := by rw [HLG.out]; exact hlt
            obtain ⟨bl, ol, rfl, hcl⟩ := HC4.out wr j HBW.out hjl
            obtain ⟨i, g, e1, hi, e2, e3, e4, e5, e6⟩ := HBK.out j hjl
            have HPR : Hid (0 < j → wr.cell? ⟨bl, ol + (j - 1) * 3, none⟩ = some (.int .i64 (L.getD (j - 1) Pr.zero).pid) ∧ (L.getD (j - 1) Pr.zero).pid < (L.getD j Pr.zero).pid) := fun h0 => by
              obtain ⟨b', o', e, hh⟩ := HC4.out wr (j - 1) HBW.out (by omega)
              simp at e
              obtain ⟨rfl, rfl⟩ := e
              exact ⟨hh.c0, HRI.out j h0 hjl⟩
            obtain ⟨bg, a', cap', rfl, hgo⟩ := HGO.out wr i g HBW.out e2
            obtain ⟨k0, k1, k2⟩ := hgo
            obtain ⟨xo, rfl, k3⟩ := k2 e3
            have hn1 : 1 ≤ g.offs.length := by have := List.length_pos_iff.mpr e3; omega
            have HPC : Hid (Calls Tryd.prog 9 #[.slice (some ⟨bg, 0, none⟩) G.length cv, .int .i64 (L.getD j Pr.zero).pid] wr fun e w' => e = .returned (.int .i64 (i : Int)) ∧ w' = wr) := by
              have := HPL.out wr (L.getD j Pr.zero).pid HBW.out
              rwa [e1] at this
            generalize L.getD j Pr.zero = p at hcl HPR HPC e5 e6
            obtain ⟨q, sq, so⟩ := p
            obtain ⟨c0, c1, c2⟩ := hcl
            simp only at c0 c1 c2 e5 e6 HPR HPC
            subst e5 e6
            generalize g.offs.getLastD 0 = z at c2 k3
            generalize g.offs.length = n at *
            generalize hQ : (L.getD (j - 1) Pr.zero).pid = q1 at HPR
            have hji : (j : Int) < (G.length : Int) := by omega
            have hii : (i : Int) < (G.length : Int) := by omega
            obtain ⟨n, rfl⟩ : ∃ n', n = n' + 1 := ⟨n - 1, by omega⟩
            simp only [Nat.add_sub_cancel] at k3
            have HE4 : Hid (n + 1 ≤ 1099511627775) := e4
            have hnl : (n : Int) ≤ 1099511627775 := by have := HE4.out; omega
            have hwn : IntKind.i64.wrap (n : Int) = (n : Int) := IntWalk.i64_in _ (by omega)
            have hi0 : decide ((i : Int) < 0) = false := by simp
            clear e1 e2 e3 k2 hQ e4 hn1
            by_cases hj0 : 0 < j
            · obtain ⟨p0, hlt0⟩ := HPR.out hj0
              obtain ⟨j, rfl⟩ : ∃ j', j = j' + 1 := ⟨j - 1, by omega⟩
              simp only [Nat.add_sub_cancel] at p0
              have hwj : IntKind.i64.wrap (j : Int) = (j : Int) := IntWalk.i64_in _ (by omega)
              have hji1 : (j : Int) + 1 < (G.length : Int) := by omega
              have hji2 : (j : Int) < (G.length : Int) := by omega
              clear hji
              go_wp2_with fail
              refine HPC.out.mono ?_
              rintro e w5 ⟨rfl, rfl⟩
              go_wp2
              go_quiet (fail)
              go_wp2
              go_roundw
              case rel => exact ⟨j + 1 + 1, by omega, by go_num, HBW.out.os, HBW.out.tape, HBW.out.output, HBW.out.size, HBW.out.block⟩
              case measure => simp [intOf]; omega
            · obtain rfl : j = 0 := by omega
              simp only [Nat.zero_mul, Nat.add_zero] at c0 c1 c2
              go_wp2_with fail
              refine HPC.out.mono ?_
              rintro e w5 ⟨rfl, rfl⟩
              go_wp2
              go_quiet (fail)
              go_wp2
              go_roundw
              case rel => exact ⟨1, by omega, by go_num, HBW.out.os, HBW.out.tape, HBW.out.output, HBW.out.size, HBW.out.block⟩
              case measure => simp [intOf]; omega
          · have hji : ¬ (j : Int) < (G.length : Int) := by omega
            go_wp2
            go_ret
            exact ⟨rfl, HBE.out _ HBW.out⟩
      · have hk3' : ¬ (k : Int) < (xs.length : Int) := by omega
        clear hend hw3
        go_wp2_with fail
        refine HFO.out.mono ?_
        rintro e w2 ⟨z2, r2, rfl, ho2', hb2⟩
        have HW2 : Hid (OnceW W w2 t m L (.slice av G.length cv) G P (.slice ar rs.length cr) rs rr) := HW.out.later hb2
        have HP2 : Hid (PrsAt w2 z2 L) := ho2'.reads HTL.out
        clear ho2' hb2 HFO HW
        go_wp2_with fail
        refine (listOf t m L w2 HW2.out.tab).mono ?_
        rintro e w3 ⟨z3, r3, rfl, hl3⟩
        have HW3 : Hid (OnceW W w3 t m L (.slice av G.length cv) G P (.slice ar rs.length cr) rs rr) := HW2.out.later hl3.below
        have HP3 : Hid (PrsAt w3 z2 L ∧ PrsAt w3 z3 L) := ⟨HP2.out.later hl3.below, hl3.row.reads HTL.out⟩
        obtain ⟨a3, c3, rfl⟩ : ∃ a c, z3 = .slice a G.length c := by
          obtain ⟨a, c, e, _⟩ := hl3.row.shape
          rw [HLG.out] at e
          exact ⟨a, c, e⟩
        clear hl3 HP2 HW2
        go_wp2_with fail
        refine (sameB z2 (.slice a3 G.length c3) L w3 HP3.out.1 HP3.out.2).mono ?_
        rintro e w4 ⟨rfl, hb4⟩
        have HW4 : Hid (OnceW W w4 t m L (.slice av G.length cv) G P (.slice ar rs.length cr) rs rr) := HW3.out.later hb4
        have HP4 : Hid (PrsAt w4 (.slice a3 G.length c3) L) := HP3.out.2.later hb4
        clear hb4 HP3 HW3
        have HC4 : Hid (∀ u j, Below w4.heap.size w4 u → j < L.length → ∃ b o, a3 = some ⟨b, o, none⟩ ∧ Pr.CellsAt u b (o + j * 3) (L.getD j Pr.zero)) := fun u j hu hj => by
          obtain ⟨a, c, e, _, _, hcc⟩ := HP4.out
          obtain ⟨b, o, e2, hcc⟩ := hcc (by intro e; rw [e] at hj; simp at hj)
          simp at e
          exact ⟨b, o, by rw [e.1, e2], (hcc j hj).block (hu.block _ (hcc j hj).lt)⟩
        have HGO : Hid (∀ u i g, Below w4.heap.size w4 u → G[i]? = some g → ∃ b a' cap', av = some ⟨b, 0, none⟩ ∧ GOne u b i g a' cap') := fun u i g hu hi => by
          obtain ⟨a, cap, e, hone⟩ := (HW4.out.giv.later hu).one
          simp at e
          obtain ⟨b, a', cap', e2, hh⟩ := hone i g hi
          exact ⟨b, a', cap', by rw [e.1, e2], hh⟩
        have HBE : Hid (∀ u, Below w4.heap.size w4 u → Below W.heap.size W u) := fun u hu => below_step HW4.out.below hu
        have HPL : Hid (∀ u pid, Below w4.heap.size w4 u → Calls Tryd.prog 9 #[.slice av G.length cv, .int .i64 pid] u fun e w' => e = .returned (.int .i64 (plc G pid)) ∧ w' = u) := fun u pid hu => placeOf P _ G pid u (HW4.out.giv.later hu) hGl
        have HBK : Hid (∀ j, j < L.length → ∃ (i : Nat) (g : Gv), plc G (L.getD j Pr.zero).pid = (i : Int) ∧ i < G.length ∧ G[i]? = some g ∧ g.offs ≠ [] ∧ g.offs.length ≤ 1099511627775 ∧ (L.getD j Pr.zero).seq = (g.offs.length : Int) ∧ (L.getD j Pr.zero).off = g.offs.getLastD 0) := fun j hj => by
          have hm : L.getD j Pr.zero ∈ L := by simp [hj]
          obtain ⟨i, g, h1, h2, h3, h4, h5⟩ := HOI.out.back hm
          have hr := (HTL.out.right _ hm).s2
          exact ⟨i, g, by unfold plc; rw [h1], (List.getElem?_eq_some_iff.mp h2).1, h2, h3, by omega, h4, h5⟩
        have HRI : Hid (∀ j, 0 < j → j < L.length → (L.getD (j - 1) Pr.zero).pid < (L.getD j Pr.zero).pid) := fun j h0 hj => by
          have := List.pairwise_iff_getElem.mp HTL.out.rise (j - 1) j (by omega) hj (by omega)
          simpa [List.getD_eq_getElem?_getD, hj, show j - 1 < L.length by omega] using this
        clear HP4 HW4 HOI HTL
        go_wp2
        go_loopw [17] (fun i wr => ∃ (j : Nat), j ≤ G.length ∧ i = .int .i64 j ∧ Hid (Below w4.heap.size w4 wr))
          (fun i _ => G.length - (intOf i).toNat)
        case atStart => exact ⟨0, Nat.zero_le _, rfl, Below.refl _ _⟩
        case round =>
          obtain ⟨j, hj, rfl, HBW⟩ := hrel
          by_cases hlt : j < G.length
          · have hjl : j < L.length := by rw [HLG.out]; exact hlt
            obtain ⟨bl, ol, rfl, hcl⟩ := HC4.out wr j HBW.out hjl
            obtain ⟨i, g, e1, hi, e2, e3, e4, e5, e6⟩ := HBK.out j hjl
            have HPR : Hid (0 < j → wr.cell? ⟨bl, ol + (j - 1) * 3, none⟩ = some (.int .i64 (L.getD (j - 1) Pr.zero).pid) ∧ (L.getD (j - 1) Pr.zero).pid < (L.getD j Pr.zero).pid) := fun h0 => by
              obtain ⟨b', o', e, hh⟩ := HC4.out wr (j - 1) HBW.out (by omega)
              simp at e
              obtain ⟨rfl, rfl⟩ := e
              exact ⟨hh.c0, HRI.out j h0 hjl⟩
            obtain ⟨bg, a', cap', rfl, hgo⟩ := HGO.out wr i g HBW.out e2
            obtain ⟨k0, k1, k2⟩ := hgo
            obtain ⟨xo, rfl, k3⟩ := k2 e3
            have hn1 : 1 ≤ g.offs.length := by have := List.length_pos_iff.mpr e3; omega
            have HPC : Hid (Calls Tryd.prog 9 #[.slice (some ⟨bg, 0, none⟩) G.length cv, .int .i64 (L.getD j Pr.zero).pid] wr fun e w' => e = .returned (.int .i64 (i : Int)) ∧ w' = wr) := by
              have := HPL.out wr (L.getD j Pr.zero).pid HBW.out
              rwa [e1] at this
            generalize L.getD j Pr.zero = p at hcl HPR HPC e5 e6
            obtain ⟨q, sq, so⟩ := p
            obtain ⟨c0, c1, c2⟩ := hcl
            simp only at c0 c1 c2 e5 e6 HPR HPC
            subst e5 e6
            generalize g.offs.getLastD 0 = z at c2 k3
            generalize g.offs.length = n at *
            generalize hQ : (L.getD (j - 1) Pr.zero).pid = q1 at HPR
            have hji : (j : Int) < (G.length : Int) := by omega
            have hii : (i : Int) < (G.length : Int) := by omega
            obtain ⟨n, rfl⟩ : ∃ n', n = n' + 1 := ⟨n - 1, by omega⟩
            simp only [Nat.add_sub_cancel] at k3
            have HE4 : Hid (n + 1 ≤ 1099511627775) := e4
            have hnl : (n : Int) ≤ 1099511627775 := by have := HE4.out; omega
            have hwn : IntKind.i64.wrap (n : Int) = (n : Int) := IntWalk.i64_in _ (by omega)
            have hi0 : decide ((i : Int) < 0) = false := by simp
            clear e1 e2 e3 k2 hQ e4 hn1
            by_cases hj0 : 0 < j
            · obtain ⟨p0, hlt0⟩ := HPR.out hj0
              obtain ⟨j, rfl⟩ : ∃ j', j = j' + 1 := ⟨j - 1, by omega⟩
              simp only [Nat.add_sub_cancel] at p0
              have hwj : IntKind.i64.wrap (j : Int) = (j : Int) := IntWalk.i64_in _ (by omega)
              have hji1 : (j : Int) + 1 < (G.length : Int) := by omega
              have hji2 : (j : Int) < (G.length : Int) := by omega
              clear hji
              go_wp2_with fail
              refine HPC.out.mono ?_
              rintro e w5 ⟨rfl, rfl⟩
              go_wp2
              go_quiet (fail)
              go_wp2
              go_roundw
              case rel => exact ⟨j + 1 + 1, by omega, by go_num, HBW.out.os, HBW.out.tape, HBW.out.output, HBW.out.size, HBW.out.block⟩
              case measure => simp [intOf]; omega
            · obtain rfl : j = 0 := by omega
              simp only [Nat.zero_mul, Nat.add_zero] at c0 c1 c2
              go_wp2_with fail
              refine HPC.out.mono ?_
              rintro e w5 ⟨rfl, rfl⟩
              go_wp2
              go_quiet (fail)
              go_wp2
              go_roundw
              case rel => exact ⟨1, by omega, by go_num, HBW.out.os, HBW.out.tape, HBW.out.output, HBW.out.size, HBW.out.block⟩
              case measure => simp [intOf]; omega
          · have hji : ¬ (j : Int) < (G.length : Int) := by omega
            go_wp2
            go_ret
            exact ⟨rfl, HBE.out _ HBW.out⟩
end Go.Proofs.YtmcfcbonmmifeaaDoor
