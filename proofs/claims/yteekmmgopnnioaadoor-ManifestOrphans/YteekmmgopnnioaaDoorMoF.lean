import Derived.Test.YteekmmgopnnioaaDoorMoB
import Derived.WalkSpells
/-! manifest: those. -/
namespace Go.Proofs.YteekmmgopnnioaaDoor
open Go.RowKit Go.Maps Plain
open Mn (FN parseL ofT lastI leftP orphP strP thoseL thoseL_step thoseL_len)
set_option linter.unusedVariables false
set_option linter.unusedSimpArgs false

abbrev fnV (n : FN) : Value := .agg #[.int .i64 n.kind, .int .i64 n.id, .int .i64 n.seg, .bool n.tmp]
/-- What the program's Parse answers. -/
def ParseIs (w : World) : Prop := ∀ u, Below w.heap.size w u → ∀ s : ByteArray, s.size ≤ 281474976710656 → Calls Tryd.prog 7 #[.string s] u fun e w' => e = .returned (fnV (parseL s.data.toList)) ∧ Below u.heap.size u w'
theorem ParseIs.later {w w' : World} (h : ParseIs w) (hb : Below w.heap.size w w') : ParseIs w' := fun u hu => h u (below_step hb hu)
/-- A new row of texts. -/
def NewTx (w : World) (e : Ending) (w' : World) (l : List ByteArray) : Prop := ∃ v r, e = .returned v ∧ OwnV w' v (txs l) r ∧ (∀ g, r = some g → w.heap.size ≤ g) ∧ Below w.heap.size w w'
theorem txs_snoc (l : List ByteArray) (s : ByteArray) : txs (l ++ [s]) = txs l ++ [Value.string s] := by simp [txs]
theorem enter_o (a : Value) (c0 : Value) (c1 : Value) (c2 : Value) (W : World) : (callFunc 28 #[a, c0, c1, c2]).run Tryd.prog W = .ok (.enter 28 #[a, c0, c1, c2]) W := by kernel_rfl
set_option maxHeartbeats 4000000 in
set_option maxRecDepth 100000 in
theorem those_o (v : Value) (ss : List ByteArray) (q : FN → Bool) (b0 b1 b2 : Nat) (w : World) (h : TxAt w v ss) (hP : ParseIs w)
    (hQ : ∀ u, Below w.heap.size w u → ∀ s : ByteArray, Calls Tryd.prog 28 #[fnV (parseL s.data.toList), .pointer (some ⟨b0, 0, none⟩), .pointer (some ⟨b1, 0, none⟩), .pointer (some ⟨b2, 0, none⟩)] u fun e w' => e = .returned (.bool (q (parseL s.data.toList))) ∧ Below u.heap.size u w') :
    Calls Tryd.prog 27 #[v, .func (.func 28) #[] #[.pointer (some ⟨b0, 0, none⟩), .pointer (some ⟨b1, 0, none⟩), .pointer (some ⟨b2, 0, none⟩)]] w fun e w' => NewTx w e w' (thoseL q ss) := by
  obtain ⟨a, cap, rfl, hcap, hl, hok, hcells⟩ := h
  have HC : Hid (∀ u m, Below w.heap.size w u → m < ss.length → ∃ b off, a = some ⟨b, off, none⟩ ∧ u.cell? ⟨b, off + m, none⟩ = some (.string (ss.getD m ⟨#[]⟩)) ∧ (ss.getD m ⟨#[]⟩).size ≤ 281474976710656 ∧ ss[m]? = some (ss.getD m ⟨#[]⟩)) := fun u m hu hm => by
    obtain ⟨b, off, e, hc⟩ := hcells (by intro e; rw [e] at hm; simp at hm)
    exact ⟨b, off, e, (hu.cell (p := ⟨b, off + m, none⟩) (cell_lt (hc m hm))).trans (hc m hm), hok _ (by simp [hm]), by simp [hm]⟩
  have HP : Hid (ParseIs w) := hP
  have HQ : Hid (∀ u, Below w.heap.size w u → ∀ s : ByteArray, Calls Tryd.prog 28 #[fnV (parseL s.data.toList), .pointer (some ⟨b0, 0, none⟩), .pointer (some ⟨b1, 0, none⟩), .pointer (some ⟨b2, 0, none⟩)] u fun e w' => e = .returned (.bool (q (parseL s.data.toList))) ∧ Below u.heap.size u w') := hQ
  clear hcells hok hP hQ
  go_enter Tryd.func27, Tryd.ntmps27
  go_wp2
  go_loopw [5, 10] (fun l i wr => ∃ (k : Nat) (r : Option Nat), k ≤ ss.length ∧ i = .int .i64 k ∧ Hid (OwnV wr l (txs (thoseL q (ss.take k))) r) ∧ Hid (∀ g, r = some g → w.heap.size ≤ g) ∧ Hid (Below w.heap.size w wr)) (fun _ i _ => ss.length - (intOf i).toNat)
  case atStart => exact ⟨0, none, by omega, rfl, by simpa [thoseL, txs, Hid] using OwnV.nil _, by simp [Hid], Below.refl _ _⟩
  case round =>
    obtain ⟨k, r, hk, rfl, HO, HG, HBW⟩ := hrel
    by_cases hlt : k < ss.length
    · obtain ⟨b, off, rfl, hc, hsz, hsk⟩ := HC.out wr k HBW.out hlt
      have HT : Hid (thoseL q (ss.take (k + 1)) = if q (parseL (ss.getD k ⟨#[]⟩).data.toList) = true then thoseL q (ss.take k) ++ [ss.getD k ⟨#[]⟩] else thoseL q (ss.take k)) := thoseL_step q ss k _ hsk
      have HLN : Hid ((thoseL q (ss.take k)).length ≤ ss.length) := Nat.le_trans (thoseL_len _ _) (by simp; omega)
      generalize ss.getD k ⟨#[]⟩ = s at hc hsz HT
      have hki : (k : Int) < (ss.length : Int) := by omega
      have HPS : Hid (Calls Tryd.prog 7 #[.string s] wr fun e w' => e = .returned (fnV (parseL s.data.toList)) ∧ Below wr.heap.size wr w') := HP.out wr HBW.out s hsz
      have HQS : Hid (∀ u, Below wr.heap.size wr u → Calls Tryd.prog 28 #[fnV (parseL s.data.toList), .pointer (some ⟨b0, 0, none⟩), .pointer (some ⟨b1, 0, none⟩), .pointer (some ⟨b2, 0, none⟩)] u fun e w' => e = .returned (.bool (q (parseL s.data.toList))) ∧ Below u.heap.size u w') := fun u hu => HQ.out u (below_step HBW.out hu) s
      generalize parseL s.data.toList = n at HPS HQS HT
      generalize thoseL q (ss.take k) = L at HO HT HLN
      clear hsk hsz
      obtain ⟨nk, ni, ng, nt⟩ := n
      simp only [fnV] at HPS HQS
      have hen : ∀ W, _ := fun W => enter_o (.agg #[.int .i64 nk, .int .i64 ni, .int .i64 ng, .bool nt]) (.pointer (some ⟨b0, 0, none⟩)) (.pointer (some ⟨b1, 0, none⟩)) (.pointer (some ⟨b2, 0, none⟩)) W
      go_wp2_with fail
      refine HPS.out.mono ?_
      rintro e w1 ⟨rfl, hb1⟩
      have HB1 : Hid (Below wr.heap.size wr w1) := hb1
      have hen1 := hen w1
      clear hb1 hen
      go_wp2_with fail
      refine (HQS.out w1 HB1.out).mono ?_
      rintro e w2 ⟨rfl, hb2⟩
      have HB2 : Hid (Below wr.heap.size wr w2) := below_step HB1.out hb2
      clear hb2
      cases hq : q ⟨nk, ni, ng, nt⟩ with
      | false =>
        have HT1 : Hid (thoseL q (ss.take (k + 1)) = L) := by rw [Hid, HT.out, hq]; simp
        go_wp2
        go_roundw
        case rel =>
          refine ⟨k + 1, r, by omega, by go_num, ?_, HG.out, below_step HBW.out HB2.out⟩
          unfold Hid
          rw [HT1.out]
          exact HO.out.of_block HB2.out.size (fun g e => HB2.out.block g (by subst e; exact HO.out.lt))
        case measure => simp [intOf]; omega
      | true =>
        have HT1 : Hid (thoseL q (ss.take (k + 1)) = L ++ [s]) := by rw [Hid, HT.out, hq]; simp
        have HO2 : Hid (OwnV w2 _ (txs L) r) := HO.out.of_block HB2.out.size (fun g e => HB2.out.block g (by subst e; exact HO.out.lt))
        go_wp2_with (at_builtin; refine wpList_append_txs _ rfl _ _ rfl _ _ (txs L) [.string s] r rfl rfl ?hOwn ?hSrc ?hLen ?hR ?_)
        case hOwn => exact HO2.out.kept (World.grownBy_alloc _ _ none) (by cases r <;> simp)
        case hSrc => exact srcTx _ _
        case hLen => rw [txs_len]; have := HLN.out; simp; omega
        case hR => exact .inr (by simp)
        intro v3 w3 g3 ho3 hg3 hr3
        have HO3 : Hid (OwnV w3 v3 (txs (L ++ [s])) (some g3)) := by rw [Hid, txs_snoc]; exact ho3
        have HB3 : Hid (Below w.heap.size w w3) := by
          have h2 := below_step HBW.out HB2.out
          have h4 := h2.alloc h2.size (.cells #[.string s] 9)
          refine h4.grown hg3 h4.size (fun g e => ?_)
          exact HG.out g e
        have HG3 : Hid (∀ g, some g3 = some g → w.heap.size ≤ g) := by
          intro g e
          injection e with e
          subst e
          rcases hr3 with e | e
          · exact HG.out _ e.symm
          · have h2 := (below_step HBW.out HB2.out).size
            rw [e]
            simp
            omega
        clear ho3 hg3 hr3
        go_wp2
        go_roundw
        case rel => exact ⟨k + 1, some g3, by omega, by go_num, by rw [Hid, HT1.out]; exact HO3.out, HG3.out, HB3.out⟩
        case measure => simp [intOf]; omega
    · obtain rfl : k = ss.length := by omega
      rw [List.take_length] at HO
      go_wp2
      go_ret
      exact ⟨_, r, rfl, HO.out, HG.out, HBW.out⟩
theorem enter_s (a : Value) (c0 : Value) (W : World) : (callFunc 30 #[a, c0]).run Tryd.prog W = .ok (.enter 30 #[a, c0]) W := by kernel_rfl
set_option maxHeartbeats 4000000 in
set_option maxRecDepth 100000 in
theorem those_s (v : Value) (ss : List ByteArray) (q : FN → Bool) (b0 : Nat) (w : World) (h : TxAt w v ss) (hP : ParseIs w)
    (hQ : ∀ u, Below w.heap.size w u → ∀ s : ByteArray, Calls Tryd.prog 30 #[fnV (parseL s.data.toList), .pointer (some ⟨b0, 0, none⟩)] u fun e w' => e = .returned (.bool (q (parseL s.data.toList))) ∧ Below u.heap.size u w') :
    Calls Tryd.prog 27 #[v, .func (.func 30) #[] #[.pointer (some ⟨b0, 0, none⟩)]] w fun e w' => NewTx w e w' (thoseL q ss) := by
  obtain ⟨a, cap, rfl, hcap, hl, hok, hcells⟩ := h
  have HC : Hid (∀ u m, Below w.heap.size w u → m < ss.length → ∃ b off, a = some ⟨b, off, none⟩ ∧ u.cell? ⟨b, off + m, none⟩ = some (.string (ss.getD m ⟨#[]⟩)) ∧ (ss.getD m ⟨#[]⟩).size ≤ 281474976710656 ∧ ss[m]? = some (ss.getD m ⟨#[]⟩)) := fun u m hu hm => by
    obtain ⟨b, off, e, hc⟩ := hcells (by intro e; rw [e] at hm; simp at hm)
    exact ⟨b, off, e, (hu.cell (p := ⟨b, off + m, none⟩) (cell_lt (hc m hm))).trans (hc m hm), hok _ (by simp [hm]), by simp [hm]⟩
  have HP : Hid (ParseIs w) := hP
  have HQ : Hid (∀ u, Below w.heap.size w u → ∀ s : ByteArray, Calls Tryd.prog 30 #[fnV (parseL s.data.toList), .pointer (some ⟨b0, 0, none⟩)] u fun e w' => e = .returned (.bool (q (parseL s.data.toList))) ∧ Below u.heap.size u w') := hQ
  clear hcells hok hP hQ
  go_enter Tryd.func27, Tryd.ntmps27
  go_wp2
  go_loopw [5, 10] (fun l i wr => ∃ (k : Nat) (r : Option Nat), k ≤ ss.length ∧ i = .int .i64 k ∧ Hid (OwnV wr l (txs (thoseL q (ss.take k))) r) ∧ Hid (∀ g, r = some g → w.heap.size ≤ g) ∧ Hid (Below w.heap.size w wr)) (fun _ i _ => ss.length - (intOf i).toNat)
  case atStart => exact ⟨0, none, by omega, rfl, by simpa [thoseL, txs, Hid] using OwnV.nil _, by simp [Hid], Below.refl _ _⟩
  case round =>
    obtain ⟨k, r, hk, rfl, HO, HG, HBW⟩ := hrel
    by_cases hlt : k < ss.length
    · obtain ⟨b, off, rfl, hc, hsz, hsk⟩ := HC.out wr k HBW.out hlt
      have HT : Hid (thoseL q (ss.take (k + 1)) = if q (parseL (ss.getD k ⟨#[]⟩).data.toList) = true then thoseL q (ss.take k) ++ [ss.getD k ⟨#[]⟩] else thoseL q (ss.take k)) := thoseL_step q ss k _ hsk
      have HLN : Hid ((thoseL q (ss.take k)).length ≤ ss.length) := Nat.le_trans (thoseL_len _ _) (by simp; omega)
      generalize ss.getD k ⟨#[]⟩ = s at hc hsz HT
      have hki : (k : Int) < (ss.length : Int) := by omega
      have HPS : Hid (Calls Tryd.prog 7 #[.string s] wr fun e w' => e = .returned (fnV (parseL s.data.toList)) ∧ Below wr.heap.size wr w') := HP.out wr HBW.out s hsz
      have HQS : Hid (∀ u, Below wr.heap.size wr u → Calls Tryd.prog 30 #[fnV (parseL s.data.toList), .pointer (some ⟨b0, 0, none⟩)] u fun e w' => e = .returned (.bool (q (parseL s.data.toList))) ∧ Below u.heap.size u w') := fun u hu => HQ.out u (below_step HBW.out hu) s
      generalize parseL s.data.toList = n at HPS HQS HT
      generalize thoseL q (ss.take k) = L at HO HT HLN
      clear hsk hsz
      obtain ⟨nk, ni, ng, nt⟩ := n
      simp only [fnV] at HPS HQS
      have hen : ∀ W, _ := fun W => enter_s (.agg #[.int .i64 nk, .int .i64 ni, .int .i64 ng, .bool nt]) (.pointer (some ⟨b0, 0, none⟩)) W
      go_wp2_with fail
      refine HPS.out.mono ?_
      rintro e w1 ⟨rfl, hb1⟩
      have HB1 : Hid (Below wr.heap.size wr w1) := hb1
      have hen1 := hen w1
      clear hb1 hen
      go_wp2_with fail
      refine (HQS.out w1 HB1.out).mono ?_
      rintro e w2 ⟨rfl, hb2⟩
      have HB2 : Hid (Below wr.heap.size wr w2) := below_step HB1.out hb2
      clear hb2
      cases hq : q ⟨nk, ni, ng, nt⟩ with
      | false =>
        have HT1 : Hid (thoseL q (ss.take (k + 1)) = L) := by rw [Hid, HT.out, hq]; simp
        go_wp2
        go_roundw
        case rel =>
          refine ⟨k + 1, r, by omega, by go_num, ?_, HG.out, below_step HBW.out HB2.out⟩
          unfold Hid
          rw [HT1.out]
          exact HO.out.of_block HB2.out.size (fun g e => HB2.out.block g (by subst e; exact HO.out.lt))
        case measure => simp [intOf]; omega
      | true =>
        have HT1 : Hid (thoseL q (ss.take (k + 1)) = L ++ [s]) := by rw [Hid, HT.out, hq]; simp
        have HO2 : Hid (OwnV w2 _ (txs L) r) := HO.out.of_block HB2.out.size (fun g e => HB2.out.block g (by subst e; exact HO.out.lt))
        go_wp2_with (at_builtin; refine wpList_append_txs _ rfl _ _ rfl _ _ (txs L) [.string s] r rfl rfl ?hOwn ?hSrc ?hLen ?hR ?_)
        case hOwn => exact HO2.out.kept (World.grownBy_alloc _ _ none) (by cases r <;> simp)
        case hSrc => exact srcTx _ _
        case hLen => rw [txs_len]; have := HLN.out; simp; omega
        case hR => exact .inr (by simp)
        intro v3 w3 g3 ho3 hg3 hr3
        have HO3 : Hid (OwnV w3 v3 (txs (L ++ [s])) (some g3)) := by rw [Hid, txs_snoc]; exact ho3
        have HB3 : Hid (Below w.heap.size w w3) := by
          have h2 := below_step HBW.out HB2.out
          have h4 := h2.alloc h2.size (.cells #[.string s] 9)
          refine h4.grown hg3 h4.size (fun g e => ?_)
          exact HG.out g e
        have HG3 : Hid (∀ g, some g3 = some g → w.heap.size ≤ g) := by
          intro g e
          injection e with e
          subst e
          rcases hr3 with e | e
          · exact HG.out _ e.symm
          · have h2 := (below_step HBW.out HB2.out).size
            rw [e]
            simp
            omega
        clear ho3 hg3 hr3
        go_wp2
        go_roundw
        case rel => exact ⟨k + 1, some g3, by omega, by go_num, by rw [Hid, HT1.out]; exact HO3.out, HG3.out, HB3.out⟩
        case measure => simp [intOf]; omega
    · obtain rfl : k = ss.length := by omega
      rw [List.take_length] at HO
      go_wp2
      go_ret
      exact ⟨_, r, rfl, HO.out, HG.out, HBW.out⟩
end Go.Proofs.YteekmmgopnnioaaDoor
