import Derived.Test.YtlnppgjppfkocaaGreatDoorGq28
import Derived.Test.YtlnppgjppfkocaaGreatDoorGq13
import Derived.Test.YtlnppgjppfkocaaGreatDoorGq16
import Derived.Deep.RegionWith
import Derived.Deep.RegionLaw
import Derived.Test.YtlnppgjppfkocaaGreatDoorGq21
import Derived.Test.YtlnppgjppfkocaaGreatDoorGq08
import Derived.Laws.EntriesVeiled
import Derived.Laws.ResultCell
/-! The program's reading of picks. -/
namespace Go.Proofs.YtlnppgjppfkocaaGreatDoor.Xs
open Go.RowKit Plain
set_option linter.unusedVariables false
set_option linter.unusedSimpArgs false

theorem step_append_int {ops : Array Oper} {o : Oper} {a : Act} {w1 : World} {K : Act → World → Prop} {Q : Exit → Act → World → Prop} {E : Prop}
    (hg : o.guard = none) (s x : Operand) (hop : o.op = Op.call { callee := Callee.builtin Builtin.append, args := #[s, x], argTypes := #[26, 26] }) (v xv : Value) (vs us : List Value) (r : Option Nat)
    (hs : a.eval s = v) (hx : a.eval x = xv) (hown : OwnV w1 v vs r) (hsrc : Src Tryz.prog 1 26 xv us.length us w1) (hlen : vs.length + us.length ≤ 17592186044417) (hr0 : r ≠ none ∨ 0 < us.length)
    (hK : ∀ v' w' g, OwnV w' v' (vs ++ us) (some g) → w1.grownBy w' r → (some g = r ∨ g = w1.heap.size) → K (a.put o.dst v') w') :
    if Region.wanted o (yielded ops a.tmps) = true then Oper.wp Tryz.prog o a w1 K Q else E := by
  have hw : Region.wanted o (yielded ops a.tmps) = true := by simp [Region.wanted, hg]
  rw [if_pos hw]
  obtain ⟨v', w', g, hrun, k1, k2, k3⟩ := run_append_ints w1 o.type v xv vs us r hown hsrc hlen hr0
  unfold Oper.wp
  simp [execOp, hop, resolve, invoke, builtin, hs, hx, hrun, Result.andThen]
  exact hK v' w' g k1 k2 k3
theorem ownv_ch {w w' : World} {v : Value} {l : List Value} {r : Option Nat} {S : Nat → Prop} (h : OwnV w v l r) (k : Ch S w w') (hr : ∀ x, r = some x → ¬ S x) : OwnV w' v l r := by
  rcases h with ⟨e, e2, e3⟩ | ⟨g, cap, e, e2, hg, h1, h2, h3, h4, h5⟩
  · exact .inl ⟨e, e2, e3⟩
  · have hbk := k.block g hg (hr g e)
    refine .inr ⟨g, cap, e, e2, Nat.lt_of_lt_of_le hg k.size, h1, h2, fun j hj => ?_, fun j hj => ?_, fun j hj => ?_⟩
    · rw [World.frozen?_of_block (w := w) (a := ⟨g, j, none⟩) hbk]; exact h3 j hj
    · rw [World.cell?_of_block (w := w) (a := ⟨g, j, none⟩) hbk]; exact h4 j hj
    · rw [World.cell?_of_block (w := w) (a := ⟨g, j, none⟩) hbk]; exact h5 j hj
/-- Within the loop over picks. -/
structure PkS (W w wl : World) (g b X : Nat) (v : Int) (ps : List By) (k : Nat) (l : List Int) (vp : Value) (r : Option Nat) : Prop where
  rd : RdW W wl g b (ps.drop k)
  bx : Bx W wl X (cmLst ⟨v, 0, Rq.zero, [], 0, l⟩ nilV vp)
  own : OwnV wl vp (ints l) r
  new : ∀ x, r = some x → w.heap.size ≤ x
  pk : PkR ps k l
  ch : Ch (fun j => j = g ∨ j = X) w wl
theorem PkS.gl {W w wl : World} {g b X : Nat} {v : Int} {ps : List By} {k : Nat} {l : List Int} {vp : Value} {r : Option Nat} (h : PkS W w wl g b X v ps k l vp r) (hg : g < w.heap.size) (hX : X < w.heap.size) (hb : b < w.heap.size) : ∀ x, r = some x → x ≠ g ∧ x ≠ X ∧ x ≠ b := fun x e => by
  have := h.new x e
  exact ⟨by omega, by omega, by omega⟩
set_option maxHeartbeats 16000000 in
set_option maxRecDepth 100000 in
theorem readPicksV (W w : World) (line : By) (g b X : Nat) (v : Int) (ps : List By) (h : Rdy W w line g b X v ps) (hv : v = 5 ∨ v = 8) :
    Calls Tryz.prog 71 #[.pointer (some ⟨g, 0, none⟩), .pointer (some ⟨X, 0, none⟩)] w (ReadP W w line g X) := by
  have HH := mkW h
  have hc : cnB v ≠ true := by rcases hv with e | e <;> subst e <;> decide
  have HS := mkW (st2_none h.is hc)
  have HV := mkW hv
  have HGX : Hid (g < w.heap.size ∧ X < w.heap.size ∧ b < w.heap.size) := ⟨h.rd.rd.glt, h.bx.lt, h.rd.rd.lt⟩
  have hln := h.ln
  obtain ⟨k0, cap0, y0, _⟩ := h.rd.rd.ex
  clear h hc hv
  go_enter Tryz.func71, Tryz.ntmps71
  go_wp2
  go_loopw [9] (fun i wl => ∃ (k : Nat) (l : List Int) (a : Option Addr) (cap : Nat) (r : Option Nat), i = .int .i64 k ∧ k ≤ ps.length ∧ Hid (PkS W w wl g b X v ps k l (.slice a l.length cap) r)) (fun i _ => ps.length - (intOf i).toNat)
  case atStart => exact ⟨0, [], none, 0, none, rfl, Nat.zero_le _, HH.out.rd, HH.out.bx, OwnV.nil _, (fun x e => by cases e), PkR.start ps, Ch.refl _ _⟩
  case round =>
    obtain ⟨k, l, a, cap, r, rfl, hk, HP⟩ := hrel
    by_cases hkn : k < ps.length
    · have hki : (k : Int) < (ps.length : Int) := by omega
      have hdr : ps.drop k = ps.getD k [] :: ps.drop (k + 1) := by
        rw [List.drop_eq_getElem_cons hkn, List.getD_eq_getElem?_getD, List.getElem?_eq_getElem hkn]; rfl
      have HDR := mkW hdr
      have hll : l.length = k := HP.out.pk.len
      have HNC : Hid (Calls Tryz.prog 95 #[.pointer (some ⟨g, 0, none⟩)] wr.drew (NumQ wr.drew g b (ps.getD k [] :: ps.drop (k + 1)))) := by
        unfold Hid
        rw [← hdr]
        exact rNumQ W wr.drew g b (ps.drop k) HH.out.err (HP.out.rd.later (Below.refl _ wr).drew)
      have z13 : wr.cell? ⟨X, 13, none⟩ = some (.slice a l.length cap) := HP.out.bx.c 13 (by simp [cmLst])
      have HRS : Hid (∀ x, r = some x → x ≠ g ∧ x ≠ X ∧ x ≠ b) := HP.out.gl HGX.out.1 HGX.out.2.1 HGX.out.2.2
      clear hdr
      cases hpar : Lib.parseIntB 64 (ps.getD k []) with
      | ok n =>
        have HPAR := mkW hpar
        have hi64 := parse_i64 hpar
        have HPK : Hid (PkR ps (k + 1) (l ++ [n])) := HP.out.pk.next hi64 (fun m hm e => by
          have := HPAR.out
          rw [e, parse_itoa hm] at this
          exact (Lib.NumEnd.ok.inj this).symm)
        clear hpar
        have HN0 : Hid (l.length = k) := hll
        rw [hll] at z13 HP
        clear hll
        go_wp2_with fail
        go_region_law (first
          | (refine step_append_int rfl _ _ rfl (.slice a k cap) (.slice (some ⟨w1.heap.size, 0, none⟩) 1 1) (ints l) [.int .i64 n] r (by first | rfl | simp [Act.eval, Act.put]) (by first | rfl | simp [Act.eval, Act.put]) (ownV_later (ownv_ch HP.out.own HC1.out (fun x e => (HRS.out x e).1)) ((Below.refl _ w1).alloc (Nat.le_refl _) _)) (srcOne w1 n) (by rw [ints_len, HN0.out]; simp; omega) (.inr (by simp)) ?_
             intro v7 w7 g7 ho7 hg7 hr7
             have hba : Below w1.heap.size w1 (w1.alloc (.cells #[.int .i64 n] 3)) := (Below.refl _ w1).alloc (Nat.le_refl _) _
             have hX7 : Bx W w7 X (cmLst ⟨v, 0, Rq.zero, [], 0, l⟩ nilV (.slice a k cap)) := ((HP.out.bx.ch HC1.out HH.out.ng).later hba).grown hg7 (fun e => (HRS.out X e).2.1 rfl)
             have hgb : w.heap.size ≤ g7 := by
               rcases hr7 with e | e
               · exact HP.out.new g7 e.symm
               · have h1 := HC1.out.size
                 have h2 := HP.out.ch.size
                 simp only [World.alloc, Array.size_push] at e
                 omega
             have HC7 : Hid (Ch (fun j => j = g ∨ j = X) w w7) := ((HP.out.ch.trans (HC1.out.mono (fun j e => .inl e))).more hba).grown hg7 (fun x e => .inr (HP.out.new x e))
             have HR7 : Hid (RdW W w7 g b (ps.drop (k + 1))) := by
               have h1 : RdAt w7 g b (ps.drop (k + 1)) := (HR1.out.later hba).grown hg7 (fun e => (HRS.out g e).1 rfl) (fun e => (HRS.out b e).2.2 rfl)
               have h2 := HP.out.rd
               rw [HDR.out] at h2
               exact ⟨h1, Ch.on HH.out.rd.bel HC7.out (fun j e => by
                 rcases e with e | e
                 · rw [e]; exact HH.out.rd.gW
                 · rw [e]; exact HH.out.bx.ge), h2.gW, h2.bW, fun x hx => h2.len x (by simp [hx])⟩
             obtain ⟨a7, c7, rfl, _, _⟩ := ho7.shape
             have hl7 : (ints l ++ [Value.int .i64 n]).length = k + 1 := by rw [List.length_append, ints_len, HN0.out]; rfl
             rw [hl7] at ho7 ⊢
             have HO7 : Hid (OwnV w7 (.slice a7 (k + 1) c7) (ints (l ++ [n])) (some g7)) := by
               have e : ints (l ++ [n]) = ints l ++ [.int .i64 n] := by simp [ints]
               unfold Hid; rw [e]; exact ho7
             have HX7 := mkW hX7
             have HG7 : Hid (w.heap.size ≤ g7 ∧ g7 ≠ X) := ⟨hgb, by have := HGX.out.2.1; omega⟩
             have y13 : w7.cell? ⟨X, 13, none⟩ = some (.slice a k cap) := hX7.c 13 (by simp [cmLst])
             have f13 := hX7.fz 13 (by simp [cmLst])
             clear hX7 hgb ho7 hg7 hr7 hba hl7)
          | (go_simp
             go_at_call 95
             refine HNC.out.mono ?_
             intro e w1 hq
             obtain ⟨rfl, hr1, hc1⟩ := hq.good HPAR.out
             have HC1 : Hid (Ch (· = g) wr w1) := (Ch.of (Below.refl _ wr).drew).trans hc1
             have HR1 := mkW hr1
             have z13b : w1.cell? ⟨X, 13, none⟩ = some (.slice a k cap) := (HP.out.bx.ch HC1.out HH.out.ng).c 13 (by simp [cmLst])
             have z13c : ∀ z, (w1.alloc (.cells #[.int .i64 z] 3)).cell? ⟨X, 13, none⟩ = some (.slice a k cap) := fun z => by rw [((Below.refl _ w1).alloc (Nat.le_refl _) _ : Below w1.heap.size w1 _).cell (cell_lt z13b)]; exact z13b
             clear hq hr1 hc1))
        all_goals
          have hch : Ch (· = X) w7 (w7.setCell ⟨X, 13, none⟩ (.slice a7 (k + 1) c7)) := (Ch.refl _ _).set 13 _ rfl
          have HPN : Hid (PkS W w (w7.setCell ⟨X, 13, none⟩ (.slice a7 (k + 1) c7)) g b X v ps (k + 1) (l ++ [n]) (.slice a7 (k + 1) c7) (some g7)) :=
            ⟨HR7.out.ch hch (fun j e => by rw [e]; exact HX7.out.ge) (Ne.symm HH.out.ng) (Ne.symm HH.out.nb), HX7.out.set (i := 13) (by simp [cmLst]) _ rfl, ownv_ch HO7.out hch (fun x e => by cases e; exact HG7.out.2), (fun x e => by cases e; exact HG7.out.1), HPK.out, HC7.out.trans (hch.mono (fun j e => .inr e))⟩
          have HLN : Hid ((l ++ [n]).length = k + 1) := by unfold Hid; rw [List.length_append, HN0.out]; rfl
          clear hch HR7 HX7 HO7 HC7 HC1 HR1 HP y13 f13 z13b z13c
          go_wp2
          go_roundw
          case rel => exact ⟨k + 1, l ++ [n], a7, c7, some g7, by go_num, by omega, by rw [HLN.out]; exact HPN⟩
          case measure => simp [intOf]; omega
      | _ =>
        have HBAD : Hid (∀ n, Lib.parseIntB 64 (ps.getD k []) ≠ .ok n) := fun n e => by rw [hpar] at e; cases e
        have HNO : Hid (NoC line) := noc_pick HS.out HV.out k hkn (fun m hm e => HBAD.out m (by rw [e]; exact parse_itoa hm))
        rw [hll] at z13 HP
        clear hpar hll
        go_wp2_with fail
        refine Till.start 11 (S := fun u => u.cell? ⟨X, 13, none⟩ = some (.slice a k cap)) (by kernel_rfl) (show wr.drew.cell? ⟨X, 13, none⟩ = _ from z13) (fun hHeld => ?_)
        refine' Till.take 0 rfl (by kernel_rfl) (by kernel_rfl) (by kernel_rfl) (by kernel_rfl) (fun _ _ _ h => h) (Or.inl ⟨by rfl, ?_⟩) (by assumption) ?_
        rotate_left
        · (intro w hSw; (try dsimp only at hSw); go_simp <;> with_reducible rfl)
        try simp only [Act.put, List.setIfInBounds_toArray, List.set_cons_zero, List.set_cons_succ]
        refine' Till.take 1 rfl (by kernel_rfl) (by kernel_rfl) (by kernel_rfl) (by kernel_rfl) (fun _ _ _ h => h) (Or.inl ⟨by rfl, ?_⟩) (by assumption) ?_
        rotate_left
        · (intro w hSw; (try dsimp only at hSw); go_simp <;> with_reducible rfl)
        try simp only [Act.put, List.setIfInBounds_toArray, List.set_cons_zero, List.set_cons_succ]
        refine' Till.take 2 rfl (by kernel_rfl) (by kernel_rfl) (by kernel_rfl) (by kernel_rfl) (fun _ _ _ h => h) (Or.inl ⟨by rfl, ?_⟩) (by assumption) ?_
        rotate_left
        · (intro w hSw; (try dsimp only at hSw); go_simp <;> with_reducible rfl)
        try simp only [Act.put, List.setIfInBounds_toArray, List.set_cons_zero, List.set_cons_succ]
        refine' Till.take 3 rfl (by kernel_rfl) (by kernel_rfl) (by kernel_rfl) (by kernel_rfl) (fun _ _ _ h => h) (Or.inl ⟨by rfl, ?_⟩) (by assumption) ?_
        rotate_left
        · (intro w hSw; (try dsimp only at hSw); go_simp <;> with_reducible rfl)
        try simp only [Act.put, List.setIfInBounds_toArray, List.set_cons_zero, List.set_cons_succ]
        refine' Till.take 4 rfl (by kernel_rfl) (by kernel_rfl) (by kernel_rfl) (by kernel_rfl) (fun _ _ _ h => h) (Or.inl ⟨by rfl, ?_⟩) (by assumption) ?_
        rotate_left
        · (intro w hSw; (try dsimp only at hSw); go_simp <;> with_reducible rfl)
        try simp only [Act.put, List.setIfInBounds_toArray, List.set_cons_zero, List.set_cons_succ]
        refine' Till.take 5 rfl (by kernel_rfl) (by kernel_rfl) (by kernel_rfl) (by kernel_rfl) (fun _ _ _ h => h) (Or.inl ⟨by rfl, ?_⟩) (by assumption) ?_
        rotate_left
        · (intro w hSw; (try dsimp only at hSw); go_simp <;> with_reducible rfl)
        try simp only [Act.put, List.setIfInBounds_toArray, List.set_cons_zero, List.set_cons_succ]
        refine Till.one 6 (by kernel_rfl) rfl (fun K hK => ?_)
        go_simp
        go_at_call 95
        refine HNC.out.mono ?_
        intro e w1 hq
        obtain ⟨rfl, hc1⟩ := hq.bad HBAD.out
        have HC1 : Ch (· = g) wr w1 := (Ch.of (Below.refl _ wr).drew).trans hc1
        exact And.intro rfl (Or.inr ⟨HNO.out, rfl, HP.out.ch.trans (HC1.mono (fun j e => .inl e))⟩)
    · have hkk : k = ps.length := by omega
      subst hkk
      have HRD : Hid (RdC line ⟨v, 0, Rq.zero, [], 0, l⟩) := rd_picks HS.out HV.out HP.out.pk
      have hpl := HP.out.pk.len
      have HLE : Hid (l.length ≤ 10000) := by unfold Hid; omega
      have HPI : Hid (∀ x ∈ l, I64 x) := HP.out.pk.i64
      clear hpl
      go_wp2
      go_end0
      have hb := HP.out.bx
      exact Or.inl ⟨⟨v, 0, Rq.zero, [], 0, l⟩, nilV, _, none, r, rfl, ⟨⟨by show _ ≤ v; have := HH.out.v0; omega, by show v ≤ _; have := HH.out.v1; omega⟩, i64_zero, wf_zero, i64_zero, HPI.out⟩, ⟨by simp [Rq.zero], by simp [Rq.zero], by simp [Rq.zero]⟩, by simp, HLE.out, HRD.out, hb, Own.nil _, HP.out.own, (fun x e => by cases e), (fun x e => ⟨HP.out.new x e, by have := HP.out.new x e; have := HGX.out.2.1; omega⟩), .inl rfl, HP.out.ch⟩
end Go.Proofs.YtlnppgjppfkocaaGreatDoor.Xs

/-! The program's writer: numbers, texts, the line. -/
namespace Go.Proofs.YtlnppgjppfkocaaGreatDoor.Xs
open Go.RowKit Plain
set_option linter.unusedVariables false
set_option linter.unusedSimpArgs false

theorem fmtOf (n : Int) (hn : I64 n) (w : World) (h : Tab w) :
    Calls Tryz.prog 57 #[.int .i64 n, .int .i64 10] w fun e w' => e = .returned (.string (ba (Lib.itoa n))) ∧ Below w.heap.size w w' := by
  refine (Any.strconv_FormatInt_10 Tryz.lFmt n hn.1 hn.2 w h).mono ?_
  rintro e w' ⟨rfl, k, os, rfl⟩
  exact ⟨rfl, Lib.below_grow _ _ (Nat.le_refl _) _ _⟩
theorem itoaQ (n : Int) (hn : I64 n) (w : World) (h : Tab w) :
    Calls Tryz.prog 58 #[.int .i64 n] w fun e w' => e = .returned (.string (ba (Lib.itoa n))) ∧ Below w.heap.size w w' := by
  refine (Any.strconv_Itoa Tryz.lItoa n hn.1 hn.2 w h).mono ?_
  rintro e w' ⟨rfl, k, os, rfl⟩
  exact ⟨rfl, Lib.below_grow _ _ (Nat.le_refl _) _ _⟩
theorem trimOf (s : By) (hs : s.length ≤ 9223372036854775807) (w : World) :
    Calls Tryz.prog 59 #[.string (ba s), .string (ba plainB)] w fun e w' => e = .returned (.string (ba (Lib.trimS s plainB))) ∧ Below w.heap.size w w' := by
  refine (Any.strings_Trim_laid Tryz.lTrim (by kernel_rfl) (ba s) (ba plainB) w hs (by decide) (ascii_of_all (by decide))).mono ?_
  rintro e w' ⟨rfl, hb⟩
  exact ⟨rfl, hb⟩
set_option maxHeartbeats 4000000 in
set_option maxRecDepth 100000 in
theorem numOf (n : Int) (hn : I64 n) (P : Nat → Prop) (W w : World) (g : Nat) (l : List By) (hT : Tab W) (h : Wr P W w g l) (hl : l.length ≤ 8796093022000) :
    Calls Tryz.prog 34 #[.pointer (some ⟨g, 0, none⟩), .int .i64 n] w fun e w' => e = .returned (.tuple #[]) ∧ Wr P W w' g (l ++ [Lib.itoa n]) ∧ Kp P w w' := by
  have hTw : Tab w := hT.later h.bel
  go_enter Tryz.func34, Tryz.ntmps34
  go_wp2_with (go_at_call 57; refine (fmtOf n hn _ hTw).mono ?_; rintro e w1 ⟨rfl, hb⟩)
  have HW := mkW (h.later hb)
  have HK := mkW (h.kp hb)
  clear hb h
  go_wp2_with (go_at_call 22; refine (wordOf (Lib.itoa n) P W _ g l HW.out hl).mono ?_; rintro e w2 ⟨rfl, hw2, hk2⟩)
  go_end0
  exact ⟨rfl, hw2, HK.out.trans hk2⟩
set_option maxHeartbeats 4000000 in
set_option maxRecDepth 100000 in
theorem textOf (s : By) (hs : s.length ≤ 8796093022208) (P : Nat → Prop) (W w : World) (g : Nat) (l : List By) (h : Wr P W w g l) (hl : l.length ≤ 8796093022000) :
    Calls Tryz.prog 39 #[.pointer (some ⟨g, 0, none⟩), .string (ba s)] w fun e w' => e = .returned (.tuple #[]) ∧ Wr P W w' g (l ++ [txt s]) ∧ Kp P w w' := by
  by_cases h0 : s = []
  · subst h0
    have ht : txt [] = 34 :: (([] : By).flatMap esc ++ [34]) := by decide
    rw [ht]
    go_enter Tryz.func39, Tryz.ntmps39
    go_wp2_with (go_at_call 60; refine (quotedOf [] (by simp) _).mono ?_; rintro e w1 ⟨rfl, hb⟩)
    have HW := mkW (h.later hb)
    have HK := mkW (h.kp hb)
    go_wp2_with (go_at_call 22; refine (wordOf _ P W _ g l HW.out hl).mono ?_; rintro e w2 ⟨rfl, hw2, hk2⟩)
    go_end0
    exact ⟨rfl, hw2, HK.out.trans hk2⟩
  · have hne : List.isEmpty s = false := by cases s <;> simp_all
    cases hA : s.all plB with
    | true =>
      have ht : txt s = s := by unfold txt; rw [if_pos ⟨h0, hA⟩]
      rw [ht]
      have hem : Lib.trimS s plainB = [] := (trim_nil s).2 hA
      have hT : ∀ u, Calls Tryz.prog 59 #[.string (ba s), .string (ba plainB)] u fun e w' => e = .returned (.string ⟨#[]⟩) ∧ Below u.heap.size u w' := fun u => by
        have := trimOf s (by omega) u
        rw [hem] at this
        exact this
      clear hem hA ht
      go_enter Tryz.func39, Tryz.ntmps39
      go_wp2_with (go_at_call 59; refine (hT _).mono ?_; rintro e w1 ⟨rfl, hb⟩)
      have HW := mkW (h.later hb)
      go_wp2_with (go_at_call 22; refine (wordOf s P W _ g l HW.out hl).mono ?_; rintro e w2 ⟨rfl, hw2, hk2⟩)
      have hkk := (h.kp hb).trans hk2
      first | go_end0 | refine bodyPost_ret (results_none rfl _ _ _) rfl ?_
      exact ⟨rfl, hw2, hkk⟩
    | false =>
      have ht : txt s = 34 :: (s.flatMap esc ++ [34]) := by unfold txt; rw [if_neg]; rintro ⟨_, h⟩; rw [hA] at h; cases h
      rw [ht]
      obtain ⟨t, htr⟩ : ∃ t, Lib.trimS s plainB = t := ⟨_, rfl⟩
      have hem : List.isEmpty t = false := by
        have : t ≠ [] := fun e => by rw [← htr] at e; have := (trim_nil s).1 e; rw [hA] at this; cases this
        cases t <;> simp_all
      have hT : ∀ u, Calls Tryz.prog 59 #[.string (ba s), .string (ba plainB)] u fun e w' => e = .returned (.string (ba t)) ∧ Below u.heap.size u w' := fun u => by
        have := trimOf s (by omega) u
        rw [htr] at this
        exact this
      clear htr hA ht
      go_enter Tryz.func39, Tryz.ntmps39
      go_wp2_with (go_at_call 59; refine (hT _).mono ?_; rintro e w1 ⟨rfl, hb⟩)
      have HW := mkW (h.later hb)
      go_wp2_with (go_at_call 60; refine (quotedOf s hs _).mono ?_; rintro e w2 ⟨rfl, hb2⟩)
      have HW2 := mkW (HW.out.later hb2)
      go_wp2_with (go_at_call 22; refine (wordOf _ P W _ g l HW2.out hl).mono ?_; rintro e w3 ⟨rfl, hw3, hk3⟩)
      have hkk := ((h.kp hb).trans (HW.out.kp hb2)).trans hk3
      go_end0
      exact ⟨rfl, hw3, hkk⟩
/-! ### The line -/
theorem nms_of {l : List By} : (l.map ba).map (·.data.toList) = l := by
  rw [List.map_map]
  conv => rhs; rw [← List.map_id l]
  refine List.map_congr_left fun x _ => ?_
  rfl
theorem joinQ (p : By) (ps : List By) (v : Value) (w : World) (r : Option Nat) (h : OwnV w v (strs (p :: ps)) r) (hN : (p :: ps).length ≤ 140737488355328) (hl : (joinL p ps).length ≤ 140737488355328) :
    Calls Tryz.prog 44 #[v, .string (ba [32])] w fun e w' => e = .returned (.string (ba (joinL p ps))) ∧ Below w.heap.size w w' := by
  rcases h with ⟨_, e, _⟩ | ⟨bk, cap, _, rfl, hg, h1, h2, h3, h4, h5⟩
  · simp [strs] at e
  · rw [strs_len] at h1 h5 ⊢
    have X : Builder.Extra Tryz.prog Tryz.lJoin_ren := {
      sizeBuilder := by kernel_rfl
      liesBuilder := by kernel_rfl
      t5 := Tryz.underlying5
      a5 := Tryz.isAgg5
      z5 := Tryz.sizeOf5
      v5 := Tryz.zeroValue5
      infoByte := by kernel_rfl
      cellsByte := by kernel_rfl
      sizeByte := by kernel_rfl
      neB5 := by decide }
    have hj : Lib.join (((p :: ps).map ba).map (·.data.toList)) (ba [32]).data.toList = joinL p ps := by
      rw [nms_of]; exact join_is p ps
    have hL : ((p :: ps).map ba).length = (p :: ps).length := List.length_map ..
    have := Any.strings_Join Tryz.lJoin X bk 0 cap ((p :: ps).map ba) (ba [32]) w (fun j x hx => by
      rw [List.getElem?_map, Option.map_eq_some_iff] at hx
      obtain ⟨y, hy, rfl⟩ := hx
      have hjl : j < (p :: ps).length := (List.getElem?_eq_some_iff.mp hy).1
      rw [Nat.zero_add, h5 j hjl, strs_get hjl, List.getD_eq_getElem?_getD, hy]; rfl) hg (by rw [hL]; exact hN) (by rw [hL]; exact h1) (by rw [hj]; exact hl)
    rw [hj, hL] at this
    exact this
set_option maxHeartbeats 4000000 in
set_option maxRecDepth 100000 in
theorem lineOf (p : By) (ps : List By) (P : Nat → Prop) (W w : World) (g : Nat) (h : Wr P W w g (p :: ps)) (hN : (p :: ps).length ≤ 140737488355328) (hl : (joinL p ps).length ≤ 140737488355328) :
    Calls Tryz.prog 23 #[.pointer (some ⟨g, 0, none⟩)] w fun e w' => e = .returned (.string (ba (joinL p ps))) ∧ Below w.heap.size w w' := by
  obtain ⟨v, r, h1, h2, h3, h4, h5⟩ := h.ex
  go_enter Tryz.func23, Tryz.ntmps23
  go_wp2_with (go_at_call 44; refine (joinQ p ps v _ r h3 hN hl).mono ?_; rintro e w1 ⟨rfl, hb⟩)
  go_ret
  exact ⟨rfl, hb⟩
end Go.Proofs.YtlnppgjppfkocaaGreatDoor.Xs

/-! The program's Show: words by number. -/
namespace Go.Proofs.YtlnppgjppfkocaaGreatDoor.Xs
open Go.RowKit Plain
set_option linter.unusedVariables false
set_option linter.unusedSimpArgs false

theorem nms_new (w : World) (l : List By) (C : Array Value) (t : TypeId) (n : Nat) (hC : C = (strs l).toArray) (hn : l.length = n) (hn2 : n ≤ 1000) (hx : (l.all fun x => decide (x.length ≤ 1000)) = true) : NmsAt (w.alloc (.cells C t)) (.slice (some ⟨w.heap.size, 0, none⟩) n n) l := by
  subst hn
  refine ⟨_, l.length, rfl, Nat.le_refl _, by omega, fun x hxl => ?_, fun _ => ⟨w.heap.size, 0, rfl, fun j hj => ?_⟩⟩
  · have := List.all_eq_true.1 hx x hxl
    simp at this; omega
  · rw [World.cell?_alloc_at _ _ _ _ rfl, hC, List.getElem?_toArray, Nat.zero_add, strs_get hj]
set_option maxHeartbeats 4000000 in
set_option maxRecDepth 100000 in
theorem opWordsOf (w : World) :
    Calls Tryz.prog 36 #[] w fun e w' => ∃ v, e = .returned v ∧ NmsAt w' v opsL ∧ Below w.heap.size w w' := by
  go_enter Tryz.func36, Tryz.ntmps36
  go_wp2
  go_ret
  refine ⟨_, rfl, nms_new w opsL _ _ 65 (by rfl) (by decide +kernel) (by decide) (by decide +kernel), (Below.refl _ w).alloc (Nat.le_refl _) _⟩
set_option maxHeartbeats 4000000 in
set_option maxRecDepth 100000 in
theorem codeWordsOf (w : World) :
    Calls Tryz.prog 37 #[] w fun e w' => ∃ v, e = .returned v ∧ NmsAt w' v cW ∧ Below w.heap.size w w' := by
  go_enter Tryz.func37, Tryz.ntmps37
  go_wp2
  go_ret
  refine ⟨_, rfl, nms_new w cW _ _ 12 (by rfl) (by decide +kernel) (by decide) (by decide +kernel), (Below.refl _ w).alloc (Nat.le_refl _) _⟩
set_option maxHeartbeats 4000000 in
set_option maxRecDepth 100000 in
theorem kindWordsOf (w : World) :
    Calls Tryz.prog 61 #[] w fun e w' => ∃ v, e = .returned v ∧ NmsAt w' v kindsL ∧ Below w.heap.size w w' := by
  go_enter Tryz.func61, Tryz.ntmps61
  go_wp2
  go_ret
  refine ⟨_, rfl, nms_new w kindsL _ _ 3 (by rfl) (by decide +kernel) (by decide) (by decide +kernel), (Below.refl _ w).alloc (Nat.le_refl _) _⟩
theorem extentOf (b : Bool) (w : World) : Calls Tryz.prog 38 #[.bool b] w fun e w' => e = .returned (.string (ba (if b = true then moreW else lastW))) ∧ Below w.heap.size w w' := by
  cases b with
  | true =>
    go_enter Tryz.func38, Tryz.ntmps38
    go_wp2
    go_ret
    exact ⟨rfl, Below.refl _ _⟩
  | false =>
    go_enter Tryz.func38, Tryz.ntmps38
    go_wp2
    go_ret
    exact ⟨rfl, Below.refl _ _⟩
set_option maxHeartbeats 4000000 in
set_option maxRecDepth 100000 in
theorem namedOf (ws : List By) (v : Value) (n : Int) (hn : I64 n) (p : By) (hp : p.length ≤ 100) (w : World) (h : NmsAt w v ws) (hT : Tab w) :
    Calls Tryz.prog 35 #[v, .int .i64 n, .string (ba p)] w fun e w' => e = .returned (.string (ba (namedL ws n p))) ∧ Below w.heap.size w w' := by
  obtain ⟨a, cap, rfl, h0, h1, h2, h3⟩ := h
  unfold namedL
  have hcat : ba p ++ ba (Lib.itoa n) = ba (p ++ Lib.itoa n) := ba_app _ _
  have hil := itoa_len hn.1 hn.2
  have hbd : ¬ 9223372036854775807 < p.length + (Lib.itoa n).length := by omega
  by_cases g1 : 0 ≤ n
  · by_cases g2 : n < (ws.length : Int)
    · obtain ⟨b, off, rfl, hc⟩ := h3 (fun e => by rw [e] at g2; simp at g2; omega)
      have hcn := hc n.toNat (by omega)
      obtain ⟨k, hk⟩ : ∃ k : Nat, n = (k : Int) := ⟨n.toNat, by omega⟩
      subst hk
      simp only [Int.toNat_natCast] at hcn ⊢
      obtain ⟨y, hy⟩ : ∃ y, ws.getD k [] = y := ⟨_, rfl⟩
      rw [hy] at hcn ⊢
      by_cases g3 : y = []
      · rw [if_neg (fun e => e.2.2 g3)]
        subst g3
        go_enter Tryz.func35, Tryz.ntmps35
        go_wp2_with (go_at_call 58; refine (itoaQ _ hn _ hT).mono ?_; rintro e w1 ⟨rfl, hb⟩)
        go_wp2
        go_ret
        exact ⟨rfl, hb⟩
      · rw [if_pos ⟨g1, g2, g3⟩]
        have hem : List.isEmpty y = false := by cases y <;> simp_all
        go_enter Tryz.func35, Tryz.ntmps35
        go_wp2
        go_ret
        exact ⟨rfl, Below.refl _ _⟩
    · rw [if_neg (fun e => g2 e.2.1)]
      go_enter Tryz.func35, Tryz.ntmps35
      go_wp2_with (go_at_call 58; refine (itoaQ _ hn _ hT).mono ?_; rintro e w1 ⟨rfl, hb⟩)
      go_wp2
      go_ret
      exact ⟨rfl, hb⟩
  · rw [if_neg (fun e => g1 e.1)]
    go_enter Tryz.func35, Tryz.ntmps35
    go_wp2_with (go_at_call 58; refine (itoaQ _ hn _ hT).mono ?_; rintro e w1 ⟨rfl, hb⟩)
    go_wp2
    go_ret
    exact ⟨rfl, hb⟩
end Go.Proofs.YtlnppgjppfkocaaGreatDoor.Xs

/-! The program's verbs. -/
namespace Go.Proofs.YtlnppgjppfkocaaGreatDoor.Xs
open Go.RowKit Plain
set_option linter.unusedVariables false
set_option linter.unusedSimpArgs false

/-- A verb's row. -/
structure Vr where
  word : By
  uses : Int
  least : Int
  most : Int
  wf : Nat
  rf : Nat
abbrev fnV (k : Nat) : Value := .func (.func k) #[] #[]
def Vr.zero : Vr := ⟨[], 0, 0, 0, 0, 0⟩
abbrev vrZ : Value := .agg #[.string ⟨#[]⟩, .int .i64 0, .int .i64 0, .int .i64 0, .nilFunc, .nilFunc]
def vrL : List Vr := [⟨vW.getD 0 [], 1, 0, 0, 62, 63⟩, ⟨vW.getD 1 [], 1, 0, 0, 62, 63⟩, ⟨vW.getD 2 [], 3, 0, 0, 64, 65⟩, ⟨vW.getD 3 [], 5, 0, 0, 66, 67⟩,
  ⟨vW.getD 4 [], 0, 0, 1125899906842624, 68, 69⟩, ⟨vW.getD 5 [], 8, 0, 0, 70, 71⟩, ⟨vW.getD 6 [], 1, 0, 1073741824, 72, 73⟩, ⟨vW.getD 7 [], 0, -1, 1073741824, 68, 69⟩,
  ⟨vW.getD 8 [], 8, 0, 0, 70, 71⟩, ⟨vW.getD 9 [], 0, 0, 0, 74, 75⟩, ⟨vW.getD 10 [], 0, 0, 0, 74, 75⟩]
def Vr.cells (v : Vr) : List Value := [.string (ba v.word), .int .i64 v.uses, .int .i64 v.least, .int .i64 v.most, fnV v.wf, fnV v.rf]
abbrev vrV (v : Vr) : Value := .agg #[.string (ba v.word), .int .i64 v.uses, .int .i64 v.least, .int .i64 v.most, fnV v.wf, fnV v.rf]
structure VrAt (w : World) (b o : Nat) (v : Vr) : Prop where
  c0 : w.cell? ⟨b, o, none⟩ = some (.string (ba v.word))
  c1 : w.cell? ⟨b, o + 1, none⟩ = some (.int .i64 v.uses)
  c2 : w.cell? ⟨b, o + 2, none⟩ = some (.int .i64 v.least)
  c3 : w.cell? ⟨b, o + 3, none⟩ = some (.int .i64 v.most)
  c4 : w.cell? ⟨b, o + 4, none⟩ = some (fnV v.wf)
  c5 : w.cell? ⟨b, o + 5, none⟩ = some (fnV v.rf)
theorem VrAt.later {w w' : World} {b o : Nat} {v : Vr} (h : VrAt w b o v) (hb : Below w.heap.size w w') : VrAt w' b o v :=
  ⟨(hb.cell (cell_lt h.c0)).trans h.c0, (hb.cell (cell_lt h.c1)).trans h.c1, (hb.cell (cell_lt h.c2)).trans h.c2, (hb.cell (cell_lt h.c3)).trans h.c3, (hb.cell (cell_lt h.c4)).trans h.c4, (hb.cell (cell_lt h.c5)).trans h.c5⟩
/-- At b lie all verbs. -/
def VbsAt (w : World) (b : Nat) : Prop := ∀ i, i < 11 → VrAt w b (i * 6) (vrL.getD i Vr.zero)
theorem VbsAt.later {w w' : World} {b : Nat} (h : VbsAt w b) (hb : Below w.heap.size w w') : VbsAt w' b := fun i hi => (h i hi).later hb
theorem vbs_new (w : World) (C : Array Value) (t : TypeId) (hC : C = (vrL.flatMap Vr.cells).toArray) : VbsAt (w.alloc (.cells C t)) w.heap.size := by
  subst hC
  intro i hi
  have k : ∀ (j : Nat) v, ((vrL.flatMap Vr.cells).toArray)[j]? = some v → (w.alloc (.cells (vrL.flatMap Vr.cells).toArray t)).cell? ⟨w.heap.size, j, none⟩ = some v := fun j v hv => by
    rw [World.cell?_alloc_at _ _ _ _ rfl]; exact hv
  rcases i with _ | _ | _ | _ | _ | _ | _ | _ | _ | _ | _ | i
  all_goals first | exact ⟨k _ _ rfl, k _ _ rfl, k _ _ rfl, k _ _ rfl, k _ _ rfl, k _ _ rfl⟩ | omega
set_option maxHeartbeats 4000000 in
set_option maxRecDepth 100000 in
theorem verbsOf (w : World) :
    Calls Tryz.prog 41 #[] w fun e w' => ∃ b, e = .returned (.slice (some ⟨b, 0, none⟩) 11 11) ∧ VbsAt w' b ∧ w.heap.size ≤ b ∧ Below w.heap.size w w' := by
  go_enter Tryz.func41, Tryz.ntmps41
  go_wp2
  go_ret
  exact ⟨_, rfl, vbs_new w _ _ rfl, Nat.le_refl _, (Below.refl _ w).alloc (Nat.le_refl _) _⟩
/-- The row of a verb. -/
def rowV (n : Int) : Vr := if 0 ≤ n ∧ n < 11 then vrL.getD n.toNat Vr.zero else Vr.zero
set_option maxHeartbeats 4000000 in
set_option maxRecDepth 100000 in
theorem verbOfOf (n : Int) (w : World) :
    Calls Tryz.prog 20 #[.int .i64 n] w fun e w' => e = .returned (.tuple #[if 0 ≤ n ∧ n < 11 then vrV (rowV n) else vrZ, .bool (decide (0 ≤ n ∧ n < 11))]) ∧ Below w.heap.size w w' := by
  by_cases h0 : 0 ≤ n
  · by_cases h1 : n < 11
    · obtain ⟨k, hk⟩ : ∃ k : Nat, n = (k : Int) := ⟨n.toNat, by omega⟩
      subst hk
      have hk : k < 11 := by omega
      have hrow : rowV (k : Int) = vrL.getD k Vr.zero := by unfold rowV; rw [if_pos ⟨h0, h1⟩, Int.toNat_natCast]
      rw [if_pos ⟨h0, h1⟩, hrow, show decide (0 ≤ (k : Int) ∧ (k : Int) < 11) = true from decide_eq_true ⟨h0, h1⟩]
      obtain ⟨v, hv⟩ : ∃ v, vrL.getD k Vr.zero = v := ⟨_, rfl⟩
      rw [hv]
      have hbA : Below w.heap.size w (w.alloc (.cells #[.string ⟨#[]⟩, .int .i64 0, .int .i64 0, .int .i64 0, .nilFunc, .nilFunc] 51)) := (Below.refl _ w).alloc (Nat.le_refl _) _
      go_enter Tryz.func20, Tryz.ntmps20
      go_wp2_with fail
      refine (verbsOf _).mono ?_
      rintro e w1 ⟨b, rfl, hvb, hb, hb1⟩
      have hx := hvb k hk
      rw [hv] at hx
      obtain ⟨c0, c1, c2, c3, c4, c5⟩ := hx
      have hb2 : w.heap.size + 1 ≤ b := by simpa using hb
      have hsz1 : w.heap.size < w1.heap.size := by have := hb1.size; simp at this; omega
      have HB1 := mkW (below_on hbA hb1)
      have z : ∀ (j : Nat) v, (#[.string ⟨#[]⟩, .int .i64 0, .int .i64 0, .int .i64 0, .nilFunc, .nilFunc] : Array Value)[j]? = some v → w1.cell? ⟨w.heap.size, j, none⟩ = some v := fun j v hj => by
        rw [hb1.cell (by simp), World.cell?_alloc_at _ _ _ _ rfl]; exact hj
      have zf : ∀ j, w1.frozen? ⟨w.heap.size, j, none⟩ = false := fun j => by
        rw [hb1.frozen (by simp)]; exact World.frozen?_alloc_at _ _ _ _ rfl
      have z0 := z 0 _ rfl
      have f0 := zf 0
      have z1 := z 1 _ rfl
      have f1 := zf 1
      have z2 := z 2 _ rfl
      have f2 := zf 2
      have z3 := z 3 _ rfl
      have f3 := zf 3
      have z4 := z 4 _ rfl
      have f4 := zf 4
      have z5 := z 5 _ rfl
      have f5 := zf 5
      clear z zf
      clear hvb hb1 hbA hb
      go_wp2_with fail
      refine bodyPost_ret (v := .tuple #[vrV v, .bool true]) ?hres rfl ?_
      case hres =>
        rw [results_cell_tmp rfl]
        go_simp
      exact ⟨rfl, (((((HB1.out.setCell (Nat.le_refl _) _).setCell (Nat.le_refl _) _).setCell (Nat.le_refl _) _).setCell (Nat.le_refl _) _).setCell (Nat.le_refl _) _).setCell (Nat.le_refl _) _⟩
    · have hd : ¬ (0 ≤ n ∧ n < 11) := by omega
      have h2 : 11 ≤ n := by omega
      rw [if_neg hd, show decide (0 ≤ n ∧ n < 11) = false from decide_eq_false hd]
      clear hd
      have hbA : Below w.heap.size w (w.alloc (.cells #[.string ⟨#[]⟩, .int .i64 0, .int .i64 0, .int .i64 0, .nilFunc, .nilFunc] 51)) := (Below.refl _ w).alloc (Nat.le_refl _) _
      go_enter Tryz.func20, Tryz.ntmps20
      go_wp2_with fail
      refine (verbsOf _).mono ?_
      rintro e w1 ⟨b, rfl, hvb, hb, hb1⟩
      have HB1 := mkW (below_on hbA hb1)
      have z : ∀ (j : Nat) v, (#[.string ⟨#[]⟩, .int .i64 0, .int .i64 0, .int .i64 0, .nilFunc, .nilFunc] : Array Value)[j]? = some v → w1.cell? ⟨w.heap.size, j, none⟩ = some v := fun j v hj => by
        rw [hb1.cell (by simp), World.cell?_alloc_at _ _ _ _ rfl]; exact hj
      have zf : ∀ j, w1.frozen? ⟨w.heap.size, j, none⟩ = false := fun j => by
        rw [hb1.frozen (by simp)]; exact World.frozen?_alloc_at _ _ _ _ rfl
      have z0 := z 0 _ rfl
      have f0 := zf 0
      have z1 := z 1 _ rfl
      have f1 := zf 1
      have z2 := z 2 _ rfl
      have f2 := zf 2
      have z3 := z 3 _ rfl
      have f3 := zf 3
      have z4 := z 4 _ rfl
      have f4 := zf 4
      have z5 := z 5 _ rfl
      have f5 := zf 5
      clear z zf
      clear hvb hb1 hbA hb
      go_wp2_with fail
      refine bodyPost_ret (v := .tuple #[vrZ, .bool false]) ?hres rfl ?_
      case hres =>
        rw [results_cell_tmp rfl]
        go_simp
      exact ⟨rfl, (((((HB1.out.setCell (Nat.le_refl _) _).setCell (Nat.le_refl _) _).setCell (Nat.le_refl _) _).setCell (Nat.le_refl _) _).setCell (Nat.le_refl _) _).setCell (Nat.le_refl _) _⟩
  · have hd : ¬ (0 ≤ n ∧ n < 11) := by omega
    have h2 : n < 0 := by omega
    rw [if_neg hd, show decide (0 ≤ n ∧ n < 11) = false from decide_eq_false hd]
    clear hd
    have hbA : Below w.heap.size w (w.alloc (.cells #[.string ⟨#[]⟩, .int .i64 0, .int .i64 0, .int .i64 0, .nilFunc, .nilFunc] 51)) := (Below.refl _ w).alloc (Nat.le_refl _) _
    go_enter Tryz.func20, Tryz.ntmps20
    go_wp2_with fail
    refine (verbsOf _).mono ?_
    rintro e w1 ⟨b, rfl, hvb, hb, hb1⟩
    have HB1 := mkW (below_on hbA hb1)
    have z : ∀ (j : Nat) v, (#[.string ⟨#[]⟩, .int .i64 0, .int .i64 0, .int .i64 0, .nilFunc, .nilFunc] : Array Value)[j]? = some v → w1.cell? ⟨w.heap.size, j, none⟩ = some v := fun j v hj => by
      rw [hb1.cell (by simp), World.cell?_alloc_at _ _ _ _ rfl]; exact hj
    have zf : ∀ j, w1.frozen? ⟨w.heap.size, j, none⟩ = false := fun j => by
      rw [hb1.frozen (by simp)]; exact World.frozen?_alloc_at _ _ _ _ rfl
    have z0 := z 0 _ rfl
    have f0 := zf 0
    have z1 := z 1 _ rfl
    have f1 := zf 1
    have z2 := z 2 _ rfl
    have f2 := zf 2
    have z3 := z 3 _ rfl
    have f3 := zf 3
    have z4 := z 4 _ rfl
    have f4 := zf 4
    have z5 := z 5 _ rfl
    have f5 := zf 5
    clear z zf
    clear hvb hb1 hbA hb
    go_wp2_with fail
    refine bodyPost_ret (v := .tuple #[vrZ, .bool false]) ?hres rfl ?_
    case hres =>
      rw [results_cell_tmp rfl]
      go_simp
    exact ⟨rfl, (((((HB1.out.setCell (Nat.le_refl _) _).setCell (Nat.le_refl _) _).setCell (Nat.le_refl _) _).setCell (Nat.le_refl _) _).setCell (Nat.le_refl _) _).setCell (Nat.le_refl _) _⟩
end Go.Proofs.YtlnppgjppfkocaaGreatDoor.Xs
