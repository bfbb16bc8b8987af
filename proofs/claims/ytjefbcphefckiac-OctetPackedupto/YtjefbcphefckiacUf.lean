import Derived.Test.YtjefbcphefckiacUe
/-! Items are unpacked: where the kinds are ones. -/
namespace Go.Proofs.Ytjefbcphefckiac
open Go.RowKit Plain
set_option linter.unusedVariables false

theorem src_it (w : World) (x : It) : Src Try.prog 3 22 (.slice (some ⟨w.heap.size, 0, none⟩) 1 1) [x].length (icells [x]) (w.alloc (.cells #[.int .i64 x.k, .int .u64 (x.n : Int), .string x.s] 32)) :=
  Src.ofSlice _ Try.underlying22 _ 1 1 _ (by rfl) (fun j u hj => by
    rw [WideShapes.add_plain, World.cell?_alloc_at _ _ _ _ rfl, Nat.zero_add, ← hj]
    simp [icells, It.cells]) (by
    intro u hu
    simp [icells, It.cells] at hu
    rcases hu with rfl | rfl | rfl <;> rfl)
theorem OwnI.later {w w' : World} {v : Value} {ts : List It} {r : Option Nat} (h : OwnI w v ts r) (k : Below w.heap.size w w') : OwnI w' v ts r := by
  rcases r with _ | g
  · exact h.kept (below_grow k none) (.inl rfl)
  · exact h.kept (below_grow k none) (.inr (by simp))

/-- A reader of the program's, and a row of items beside it. -/
structure Rd2 (S : Nat) (W wr : World) (b : Nat) (r : Option Nat) (v : Value) (ts : List It) (s : Rs) : Prop where
  pa : PA wr b s r
  rl : ∀ q, r = some q → S < q ∧ q < wr.heap.size
  bl : S < b
  ow : ∃ q, OwnI wr v ts (some q) ∧ S < q ∧ q ≠ b ∧ r ≠ some q
  be : Below (S + 1) W wr

theorem Rd2.next {S : Nat} {W wr w1 w2 : World} {b : Nat} {r : Option Nat} {v v2 : Value} {ts ts2 : List It} {s s2 : Rs} {q q2 : Nat} (hS : S + 1 ≤ wr.heap.size) (h : Rd2 S W wr b r v ts s) (hp : PA w1 b s2 r) (hg : wr.grownBy w1 (some b)) (hq : S < q ∧ q ≠ b ∧ r ≠ some q)
    (ho2 : OwnI w2 v2 ts2 (some q2)) (hg2 : w1.grownBy w2 (some q)) (hq2 : q2 = q ∨ w1.heap.size ≤ q2) : Rd2 S W w2 b r v2 ts2 s2 := by
  have e1 := hg.size
  have e2 := hg2.size
  have e3 := h.pa.lt
  refine ⟨hp.kept hg2 (by simpa using Ne.symm hq.2.1) (fun g hg' => by subst hg'; simpa using hq.2.2), fun g hg' => ⟨(h.rl g hg').1, by have := (h.rl g hg').2; omega⟩, h.bl, ⟨q2, ho2, ?_, ?_, ?_⟩, ?_⟩
  · rcases hq2 with rfl | h2
    · exact hq.1
    · omega
  · rcases hq2 with rfl | h2
    · exact hq.2.1
    · omega
  · rcases hq2 with rfl | h2
    · exact hq.2.2
    · intro e
      have := (h.rl q2 e).2
      omega
  · exact (h.be.trans (grow_below hg hS (fun g hg' => by have := h.bl; simp at hg'; omega))).trans (grow_below hg2 (by omega) (fun g hg' => by simp at hg'; omega))

set_option maxHeartbeats 2000000 in
theorem unpackGood (vk vb : Value) (ks : List Int) (most : Int) (l : List Nat) (w : World) (hk : IntsAt w vk ks) (hb : BytesAt w vb l) (hl : l.length ≤ 140737488351232) (hkl : ks.length ≤ 1099511627776) (hm1 : -9223372036854775808 ≤ most) (hm2 : most ≤ 9223372036854775807) (hok : ks.all kindOk = true) :
    Calls Try.prog 6 #[vk, .int .i64 most, vb] w fun e w' => ∃ v' r', e = .returned (.tuple #[v', .agg #[.int .i64 (upE ks most l), .int .i64 (upP ks most l)]]) ∧ OwnI w' v' (upItems ks most l) r' ∧ (∀ q, r' = some q → w.heap.size ≤ q) ∧ Below w.heap.size w w' := by
  obtain ⟨a, cap, rfl, hcl, hsn, hcells⟩ := hk
  unfold maxLen at hcl
  have HB : Hid (BytesAt w vb l) := hb
  have HC : Hid (ks ≠ [] → ∃ b off, a = some ⟨b, off, none⟩ ∧ ∀ j, j < ks.length → w.cell? ⟨b, off + j, none⟩ = some (.int .i64 (ks.getD j 0))) := hcells
  have HOK : Hid (∀ x ∈ ks, kindOk x = true) := fun x hx => List.all_eq_true.mp hok x hx
  have HOKA : Hid (ks.all kindOk = true) := hok
  obtain ⟨i32, hi32, hz0, hz1, hz2⟩ := info_parts Try.info32
  clear hcells hsn hb hok
  obtain ⟨S, hS⟩ : ∃ S, S = w.heap.size := ⟨_, rfl⟩
  have HSS : Hid (S = w.heap.size) := hS
  go_enter Try.func6, Try.ntmps6
  go_wp2
  rw [← hS]
  clear hS
  go_loopw [17] (fun i wr => ∃ (k : Nat), k ≤ ks.length ∧ i = .int .i64 k ∧ Below (S + 1) (w.alloc (.cells #[.int .i64 0, .int .i64 0] 27)) wr) (fun i _ => ks.length - (intOf i).toNat)
  case atStart => exact ⟨0, by omega, rfl, Below.refl _ _⟩
  case round =>
    obtain ⟨k, hk, rfl, hbl⟩ := hrel
    have HBL : Hid (Below (S + 1) (w.alloc (.cells #[.int .i64 0, .int .i64 0] 27)) wr) := hbl
    have HW : Hid (Below S w wr) := ((Below.refl _ _).alloc (by rw [HSS.out]; exact Nat.le_refl _) _).trans (hbl.mono (by omega))
    have HSW : Hid (S + 1 ≤ wr.heap.size) := by have := hbl.size; have e := HSS.out; unfold Hid; simp at this; omega
    clear hbl
    by_cases hlt : k < ks.length
    · have hne : ks ≠ [] := by rintro rfl; simp at hlt
      obtain ⟨b, off, rfl, hc⟩ := HC.out hne
      have c0 : wr.cell? ⟨b, off + k, none⟩ = some (.int .i64 (ks.getD k 0)) := by rw [HW.out.cell (p := ⟨b, _, none⟩) (by have := cell_lt (hc k hlt); rw [HSS.out]; exact this)]; exact hc k hlt
      have hfit := HOK.out (ks.getD k 0) (by simp [hlt])
      generalize ks.getD k 0 = x at c0 hfit
      clear hc hne
      go_wp2_with fail
      refine (fitsAny ⟨x, 0, ⟨#[]⟩⟩ wr).mono ?_
      rintro e w1 ⟨rfl, hb1⟩
      have HBL1 : Hid (Below (S + 1) (w.alloc (.cells #[.int .i64 0, .int .i64 0] 27)) w1) := HBL.out.trans (hb1.mono HSW.out)
      clear hb1
      rw [kind_fits, hfit]
      clear hfit c0
      go_wp2
      go_roundw
      case rel => exact ⟨k + 1, by omega, by go_num, HBL1.out⟩
      case measure => simp [intOf]; omega
    · go_wp2_with fail
      refine (pNew vb l wr (HB.out.later (by have := HW.out; rw [HSS.out] at this; exact this)) hl).mono ?_
      rintro e w2 ⟨b, r, rfl, hp2, hb2, hr2, hbl2⟩
      clear hlt hk
      have HP2 : Hid (PA w2 b ⟨l, 0, 0⟩ r) := hp2
      have HB2 : Hid (S < b) := by have := HSW.out; unfold Hid; omega
      have HR2 : Hid (∀ q, r = some q → S < q ∧ q < w2.heap.size) := fun q hq => ⟨by have := (hr2 q hq).1; have := HSW.out; omega, (hr2 q hq).2⟩
      have HBE2 : Hid (Below (S + 1) (w.alloc (.cells #[.int .i64 0, .int .i64 0] 27)) w2) := HBL.out.trans (hbl2.mono HSW.out)
      have hsz2 := hbl2.size
      clear hp2 hb2 hr2 hbl2 HBL
      go_wp2_with (at_make; refine wpList_make_own _ rfl _ _ 22 rfl 0 32 i32 _ 3 Try.underlying22 hi32 hz0 hz1 .i64 .i64 _ ks.length rfl rfl rfl (by rw [hz2]; omega) (by unfold maxLen; omega) (Nat.zero_le _) ?_; intro w3 hor3 hg3)
      have HOI3 : Hid (OwnI w3 (.slice (some ⟨w2.heap.size, 0, none⟩) 0 ks.length) [] (some w2.heap.size)) := OwnI.of_made hor3
      have HRD : Hid (Rd2 S (w.alloc (.cells #[.int .i64 0, .int .i64 0] 27)) w3 b r (.slice (some ⟨w2.heap.size, 0, none⟩) 0 ks.length) [] ⟨l, 0, 0⟩) := by
        have e1 := HP2.out.lt
        have e2 := hg3.size
        have e3 := HSW.out
        refine ⟨HP2.out.kept hg3 (by simp) (by simp), fun q hq => ⟨(HR2.out q hq).1, by have := (HR2.out q hq).2; omega⟩, HB2.out, ⟨_, HOI3.out, by omega, by omega, fun e => by have := (HR2.out _ e).2; omega⟩, HBE2.out.trans (grow_below hg3 (by omega) (by simp))⟩
      have HS3 : Hid (S + 1 ≤ w3.heap.size) := by have := hg3.size; have := HSW.out; unfold Hid; omega
      clear hor3 hg3 HP2 HB2 HR2 HBE2 HOI3 hsz2 HSW HW
      go_wp2
      go_loopw [11, 34] (fun v i wx => ∃ (k : Nat), k ≤ ks.length ∧ i = .int .i64 k ∧ Rd2 S (w.alloc (.cells #[.int .i64 0, .int .i64 0] 27)) wx b r v (readAll most ⟨l, 0, 0⟩ (ks.take k)).1 (readAll most ⟨l, 0, 0⟩ (ks.take k)).2 ∧ S + 1 ≤ wx.heap.size) (fun _ i _ => ks.length - (intOf i).toNat)
      case atStart => exact ⟨0, by omega, rfl, HRD.out, HS3.out⟩
      case round =>
        obtain ⟨k, hk, rfl, hrd, hsx⟩ := hrel
        have HR : Hid (Rd2 S (w.alloc (.cells #[.int .i64 0, .int .i64 0] 27)) wr b r u11 (readAll most ⟨l, 0, 0⟩ (ks.take k)).1 (readAll most ⟨l, 0, 0⟩ (ks.take k)).2) := hrd
        have HSX : Hid (S + 1 ≤ wr.heap.size) := hsx
        have HWx : Hid (Below S w wr) := ((Below.refl _ _).alloc (by rw [HSS.out]; exact Nat.le_refl _) _).trans (hrd.be.mono (by omega))
        clear hrd hsx HRD HS3
        by_cases hlt : k < ks.length
        · have hne : ks ≠ [] := by rintro rfl; simp at hlt
          obtain ⟨bk, off, rfl, hc⟩ := HC.out hne
          have c0 : wr.cell? ⟨bk, off + k, none⟩ = some (.int .i64 (ks.getD k 0)) := by rw [HWx.out.cell (p := ⟨bk, _, none⟩) (by have := cell_lt (hc k hlt); rw [HSS.out]; exact this)]; exact hc k hlt
          have hfit := HOK.out (ks.getD k 0) (by simp [hlt])
          have HT : Hid (readAll most ⟨l, 0, 0⟩ (ks.take (k + 1)) = ((readAll most ⟨l, 0, 0⟩ (ks.take k)).1 ++ [(readIt (readAll most ⟨l, 0, 0⟩ (ks.take k)).2 (ks.getD k 0) most).1], (readIt (readAll most ⟨l, 0, 0⟩ (ks.take k)).2 (ks.getD k 0) most).2)) := by unfold Hid; rw [take_snoc_int ks k hlt, readAll_snoc]
          have HLN : Hid ((readAll most ⟨l, 0, 0⟩ (ks.take k)).1.length ≤ 1099511627776) := by unfold Hid; rw [readAll_len]; simp; omega
          generalize ks.getD k 0 = x at c0 hfit HT
          generalize readAll most ⟨l, 0, 0⟩ (ks.take k) = Y at HR HT HLN
          obtain ⟨ts, sx⟩ := Y
          simp only at HR HT HLN
          have hx : 0 ≤ x ∧ x ≤ 5 := by simpa [kindOk] using hfit
          obtain ⟨q, how, hq1, hq2, hq3⟩ := HR.out.ow
          have HOQ : Hid (OwnI wr u11 ts (some q)) := how
          clear hc hne hfit how
          go_wp2_with fail
          refine (itemAny wr b sx r x most hx hm1 hm2 HR.out.pa (fun q hq => (HR.out.rl q hq).2)).mono ?_
          rintro e w1 ⟨rfl, hp1, hg1⟩
          generalize readIt sx x most = X at hp1 HT
          obtain ⟨X, s1⟩ := X
          simp only at hp1 HT
          have HP1 : Hid (PA w1 b s1 r) := hp1
          have HG1 : Hid (wr.grownBy w1 (some b)) := hg1
          have HOQ1 : Hid (OwnI w1 u11 ts (some q)) := HOQ.out.kept hg1 (.inr (by simpa using hq2))
          clear hp1 hg1 c0 HOQ
          go_wp2_with (at_builtin; refine wpList_append_its _ rfl _ _ rfl _ _ ts [X] (some q) rfl rfl ?hOwn ?hSrc ?hLen ?hR ?_)
          case hOwn => exact HOQ1.out.later ((Below.refl _ _).alloc (Nat.le_refl _) _)
          case hSrc => exact src_it w1 X
          case hLen => have := HLN.out; simp; omega
          case hR => exact .inl (by simp)
          intro v2 w2 g2 ho2 hg2 hr2
          have HN : Hid (Rd2 S (w.alloc (.cells #[.int .i64 0, .int .i64 0] 27)) w2 b r v2 (ts ++ [X]) s1) :=
            Rd2.next HSX.out HR.out (HP1.out.later ((Below.refl _ _).alloc (Nat.le_refl _) _)) (grow_trans HG1.out (World.grownBy_alloc w1 _ none) (.inr (.inl rfl))) ⟨hq1, hq2, hq3⟩ ho2 hg2 (by
              rcases hr2 with e | e
              · exact .inl (by simpa using e)
              · right; rw [e]; simp)
          have HS2 : Hid (S + 1 ≤ w2.heap.size) := by have := HG1.out.size; have e2 := hg2.size; have := HSX.out; unfold Hid; simp at e2; omega
          clear ho2 hg2 hr2 HR HP1 HG1 HOQ1
          go_wp2
          go_roundw
          case rel => exact ⟨k + 1, by omega, by go_num, by rw [HT.out]; exact HN.out, HS2.out⟩
          case measure => simp [intOf]; omega
        · obtain rfl : k = ks.length := by omega
          have HU : Hid (Rd2 S (w.alloc (.cells #[.int .i64 0, .int .i64 0] 27)) wr b r u11 (upS ks most l).1 (upS ks most l).2) := by have := HR.out; rwa [List.take_length] at this
          have HUI : Hid (upItems ks most l = if (upS ks most l).2.endE = 0 then (upS ks most l).1 else []) := by unfold Hid upItems; rw [if_pos HOKA.out]
          have HUE : Hid (upE ks most l = (upS ks most l).2.endE) := by unfold Hid upE; rw [if_pos HOKA.out]
          have HUP : Hid (upP ks most l = (upS ks most l).2.endP) := by unfold Hid upP; rw [if_pos HOKA.out]
          clear HR HC HOK HOKA HB
          generalize upS ks most l = Y at HU HUI HUE HUP
          obtain ⟨ts, sx⟩ := Y
          simp only at HU HUI HUE HUP
          go_wp2_with fail
          refine (paEnd wr b sx r HU.out.pa).mono ?_
          rintro e w5 ⟨rfl, hb5⟩
          have HBE5 : Hid (Below (S + 1) (w.alloc (.cells #[.int .i64 0, .int .i64 0] 27)) w5) := HU.out.be.trans (hb5.mono HSX.out)
          obtain ⟨q, how, hq1, -, -⟩ := HU.out.ow
          have HOW5 : Hid (OwnI w5 u11 ts (some q)) := how.later hb5
          have HQ1 : Hid (S < q) := hq1
          have HS5 : Hid (S < w5.heap.size) := by have := HSX.out; have := hb5.size; unfold Hid; omega
          have y0 : w5.cell? ⟨S, 0, none⟩ = some (.int .i64 0) := by rw [HBE5.out.cell (p := ⟨S, _, none⟩) (by simp)]; rw [HSS.out]; simp
          have y1 : w5.cell? ⟨S, 1, none⟩ = some (.int .i64 0) := by rw [HBE5.out.cell (p := ⟨S, _, none⟩) (by simp)]; rw [HSS.out]; simp
          have f0 : w5.frozen? ⟨S, 0, none⟩ = false := by rw [HBE5.out.frozen (p := ⟨S, _, none⟩) (by simp)]; rw [HSS.out]; simp
          have f1 : w5.frozen? ⟨S, 1, none⟩ = false := by rw [HBE5.out.frozen (p := ⟨S, _, none⟩) (by simp)]; rw [HSS.out]; simp
          have hsl := HS5.out
          clear hb5 how hq1 HU
          have hfin : ∀ w6, Below S w5 w6 → Below w.heap.size w w6 := fun w6 k => by
            have h1 : Below S w w5 := ((Below.refl _ _).alloc (by rw [HSS.out]; exact Nat.le_refl _) _).trans (HBE5.out.mono (by omega))
            rw [← HSS.out]
            exact h1.trans k
          have HFIN : Hid (∀ w6, Below S w5 w6 → Below w.heap.size w w6) := hfin
          clear hfin
          by_cases hz : sx.endE = 0
          · have HP0 : Hid ((sx.endP : Int) = 0) := by unfold Hid; rw [endP_zero sx hz]; rfl
            have HZ : Hid (sx.endE = 0) := hz
            go_wp2
            refine bodyPost_ret (v := .tuple #[u11, .agg #[.int .i64 0, .int .i64 0]]) (by simp [results, Try.results6, go_sem, y0, y1, hsl]) rfl ⟨u11, some q, ?_, ?_, ?_, ?_⟩
            · rw [HUE.out, HUP.out, HZ.out, HP0.out]
            · rw [HUI.out, if_pos HZ.out]
              have hqs : some q ≠ some S := by have := HQ1.out; simp; omega
              exact ((HOW5.out.kept (grow_set _ S 0 _) (.inr hqs)).kept (grow_set _ S 1 _) (.inr hqs)).later ((Below.refl _ _).alloc (Nat.le_refl _) _)
            · intro q' hq'
              have := HQ1.out
              have := HSS.out
              simp at hq'
              omega
            · exact HFIN.out _ ((((Below.refl S w5).setCell (Nat.le_refl _) _).setCell (Nat.le_refl _) _).alloc (by simp [World.setCell]; omega) _)
          · have he : (sx.endE != 0) = true := by simpa using hz
            have HZ : Hid (¬ sx.endE = 0) := hz
            clear hz
            go_wp2
            go_region
            all_goals
              go_wp2
              refine bodyPost_ret (v := .tuple #[.slice none 0 0, .agg #[.int .i64 sx.endE, .int .i64 sx.endP]]) (by simp [results, Try.results6, go_sem, y0, y1, hsl]) rfl ⟨.slice none 0 0, none, ?_, ?_, ?_, ?_⟩
              · rw [HUE.out, HUP.out]
              · rw [HUI.out, if_neg HZ.out]
                exact .inl ⟨rfl, rfl, rfl⟩
              · simp
              · refine HFIN.out _ ?_
                first
                  | exact ((((Below.refl S w5).setCell (Nat.le_refl _) _).setCell (Nat.le_refl _) _).alloc (by simp [World.setCell]; omega) _).drew
                  | exact ((((Below.refl S w5).setCell (Nat.le_refl _) _).setCell (Nat.le_refl _) _).drew.alloc (by simp [World.setCell]; omega) _)
end Go.Proofs.Ytjefbcphefckiac
