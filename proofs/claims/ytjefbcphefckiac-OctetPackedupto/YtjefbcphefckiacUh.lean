import Derived.Test.YtjefbcphefckiacUg
/-! The document's Unpack. -/
namespace Go.Proofs.Ytjefbcphefckiac
open Go.RowKit Plain
set_option linter.unusedVariables false

theorem src_it' (W : World) (x : It) (n : Nat) (hn : n = W.heap.size) : Src Try.prog 3 22 (.slice (some ⟨n, 0, none⟩) 1 1) [x].length (icells [x]) (W.alloc (.cells #[.int .i64 x.k, .int .u64 (x.n : Int), .string x.s] 32)) := by
  subst hn
  exact src_it W x
theorem below_grow' {w1 : World} {B j : Nat} {u : Value} (_ : Below B w1 (w1.setCell ⟨B, j, none⟩ u)) (_ : B < w1.heap.size) : w1.grownBy (w1.setCell ⟨B, j, none⟩ u) (some B) := grow_set w1 B j u

/-- What is told of items that are unpacked. -/
def UpPost (w : World) (ks : List Int) (most : Int) (l : List Nat) : Ending → World → Prop := fun e w' => ∃ v' r', e = .returned (.tuple #[v', .agg #[.int .i64 (upE ks most l), .int .i64 (upP ks most l)]]) ∧ OwnI w' v' (upItems ks most l) r' ∧ Below w.heap.size w w'

set_option maxHeartbeats 4000000 in
theorem refUnpack (vk vb : Value) (ks : List Int) (most : Int) (l : List Nat) (w : World) (hk : IntsAt w vk ks) (hb : BytesAt w vb l) (hl : l.length ≤ 140737488351232) (hkl : ks.length ≤ 1099511627776) (hm1 : -9223372036854775808 ≤ most) (hm2 : most ≤ 9223372036854775807) :
    Calls Try.prog 12 #[vk, .int .i64 most, vb] w (UpPost w ks most l) := by
  obtain ⟨a, cap, rfl, hcl, hsn, hcells⟩ := hk
  unfold maxLen at hcl
  have HB : Hid (BytesAt w vb l) := hb
  have HC : Hid (ks ≠ [] → ∃ b off, a = some ⟨b, off, none⟩ ∧ ∀ j, j < ks.length → w.cell? ⟨b, off + j, none⟩ = some (.int .i64 (ks.getD j 0))) := hcells
  clear hcells hsn hb
  obtain ⟨S, hS⟩ : ∃ S, S = w.heap.size := ⟨_, rfl⟩
  have HSS : Hid (S = w.heap.size) := hS
  go_enter Try.func12, Try.ntmps12
  go_wp2
  rw [← hS]
  clear hS
  go_loopw [8] (fun i wr => ∃ (k : Nat), k ≤ ks.length ∧ i = .int .i64 k ∧ (ks.take k).all kindOk = true ∧ wr = (w.alloc (.cells #[.int .i64 0, .int .i64 0] 27))) (fun i _ => ks.length - (intOf i).toNat)
  case atStart => exact ⟨0, by omega, rfl, by simp, rfl⟩
  case round =>
    obtain ⟨k, hk, rfl, hall, rfl⟩ := hrel
    have HA : Hid ((ks.take k).all kindOk = true) := hall
    have HW : Hid (Below S w (w.alloc (.cells #[.int .i64 0, .int .i64 0] 27))) := (Below.refl _ _).alloc (by rw [HSS.out]; exact Nat.le_refl _) _
    have HSW : Hid (S + 1 ≤ (w.alloc (.cells #[.int .i64 0, .int .i64 0] 27)).heap.size) := by have e := HSS.out; unfold Hid; simp; omega
    have HBE : Hid (Below (S + 1) (w.alloc (.cells #[.int .i64 0, .int .i64 0] 27)) (w.alloc (.cells #[.int .i64 0, .int .i64 0] 27))) := Below.refl _ _
    have y0 : (w.alloc (.cells #[.int .i64 0, .int .i64 0] 27)).cell? ⟨S, 0, none⟩ = some (.int .i64 0) := by rw [HSS.out]; simp
    have y1 : (w.alloc (.cells #[.int .i64 0, .int .i64 0] 27)).cell? ⟨S, 1, none⟩ = some (.int .i64 0) := by rw [HSS.out]; simp
    have f0 : (w.alloc (.cells #[.int .i64 0, .int .i64 0] 27)).frozen? ⟨S, 0, none⟩ = false := by rw [HSS.out]; simp
    have f1 : (w.alloc (.cells #[.int .i64 0, .int .i64 0] 27)).frozen? ⟨S, 1, none⟩ = false := by rw [HSS.out]; simp
    clear hall
    by_cases hlt : k < ks.length
    · have hne : ks ≠ [] := by rintro rfl; simp at hlt
      obtain ⟨b, off, rfl, hc⟩ := HC.out hne
      have c0 : (w.alloc (.cells #[.int .i64 0, .int .i64 0] 27)).cell? ⟨b, off + k, none⟩ = some (.int .i64 (ks.getD k 0)) := by rw [HW.out.cell (p := ⟨b, _, none⟩) (by have := cell_lt (hc k hlt); rw [HSS.out]; exact this)]; exact hc k hlt
      have HT : Hid (kindOk (ks.getD k 0) = true → (ks.take (k + 1)).all kindOk = true) := fun hx => by rw [take_snoc_int ks k hlt, List.all_append, HA.out]; simpa using hx
      have HTB : Hid (kindOk (ks.getD k 0) = false → upItems ks most l = [] ∧ upE ks most l = 12 ∧ upP ks most l = 0) := fun hx => up_bad ks most l k hlt hx
      generalize ks.getD k 0 = x at c0 HT HTB
      clear hc hne
      by_cases h0 : x < 0
      · obtain ⟨u1, u2, u3⟩ := HTB.out (by simp [kindOk]; omega)
        have HU : Hid (upItems ks most l = [] ∧ upE ks most l = 12 ∧ (upP ks most l : Int) = 0) := ⟨u1, u2, by rw [u3]; rfl⟩
        clear u1 u2 u3 HT HTB
        go_wp2
        refine bodyPost_ret (v := .tuple #[.slice none 0 0, .agg #[.int .i64 12, .int .i64 0]]) (by simp [results, Try.results12, go_sem, y0, y1]) rfl ⟨.slice none 0 0, none, ?_, ?_, ?_⟩
        · rw [HU.out.2.1, HU.out.2.2]
        · rw [HU.out.1]; exact .inl ⟨rfl, rfl, rfl⟩
        · rw [← HSS.out]; exact (HW.out.setCell (Nat.le_refl _) _).setCell (Nat.le_refl _) _
      · by_cases h5 : x ≤ 5
        · have HA2 : Hid ((ks.take (k + 1)).all kindOk = true) := HT.out (by simp [kindOk]; omega)
          go_wp2
          go_roundw
          case rel => exact ⟨k + 1, by omega, by go_num, HA2.out, by simp⟩
          case measure => simp [intOf]; omega
        · obtain ⟨u1, u2, u3⟩ := HTB.out (by simp [kindOk]; omega)
          have HU : Hid (upItems ks most l = [] ∧ upE ks most l = 12 ∧ (upP ks most l : Int) = 0) := ⟨u1, u2, by rw [u3]; rfl⟩
          clear u1 u2 u3 HT HTB
          go_wp2
          refine bodyPost_ret (v := .tuple #[.slice none 0 0, .agg #[.int .i64 12, .int .i64 0]]) (by simp [results, Try.results12, go_sem, y0, y1]) rfl ⟨.slice none 0 0, none, ?_, ?_, ?_⟩
          · rw [HU.out.2.1, HU.out.2.2]
          · rw [HU.out.1]; exact .inl ⟨rfl, rfl, rfl⟩
          · rw [← HSS.out]; exact (HW.out.setCell (Nat.le_refl _) _).setCell (Nat.le_refl _) _
    · obtain rfl : k = ks.length := by omega
      have HOKA : Hid (ks.all kindOk = true) := by have := HA.out; rwa [List.take_length] at this
      have HOK : Hid (∀ x ∈ ks, kindOk x = true) := fun x hx => List.all_eq_true.mp HOKA.out x hx
      go_wp2_with fail
      refine (qNew vb l _ (HB.out.later (by have := HW.out; rw [HSS.out] at this; exact this)) hl).mono ?_
      rintro e w2 ⟨b, g, rfl, hq2, hb2, hg2, hbl2⟩
      have HRD : Hid (Rf2 S (w.alloc (.cells #[.int .i64 0, .int .i64 0] 27)) w2 b g (.slice none 0 0) [] ⟨l, 0, 0⟩) := by
        have e3 := HSW.out
        have e4 := hbl2.size
        exact ⟨hq2, by omega, ⟨none, .inl ⟨rfl, rfl, rfl⟩, by simp⟩, hbl2.mono e3, by omega⟩
      clear hq2 hb2 hg2 hbl2 hlt hk HA y0 y1 f0 f1 HBE
      go_wp2
      go_loopw [10, 11] (fun v i wx => ∃ (k : Nat), k ≤ ks.length ∧ i = .int .i64 k ∧ Rf2 S (w.alloc (.cells #[.int .i64 0, .int .i64 0] 27)) wx b g v (readAll most ⟨l, 0, 0⟩ (ks.take k)).1 (readAll most ⟨l, 0, 0⟩ (ks.take k)).2) (fun _ i _ => ks.length - (intOf i).toNat)
      case atStart => exact ⟨0, by omega, rfl, HRD.out⟩
      case round =>
        obtain ⟨k, hk, rfl, hrd⟩ := hrel
        have HR : Hid (Rf2 S (w.alloc (.cells #[.int .i64 0, .int .i64 0] 27)) wr b g u10 (readAll most ⟨l, 0, 0⟩ (ks.take k)).1 (readAll most ⟨l, 0, 0⟩ (ks.take k)).2) := hrd
        have HWx : Hid (Below S w wr) := HW.out.trans (hrd.be.mono (by omega))
        clear hrd HRD
        by_cases hlt : k < ks.length
        · have hne : ks ≠ [] := by rintro rfl; simp at hlt
          obtain ⟨bk, off, rfl, hc⟩ := HC.out hne
          have c0 : wr.cell? ⟨bk, off + k, none⟩ = some (.int .i64 (ks.getD k 0)) := by rw [HWx.out.cell (p := ⟨bk, _, none⟩) (by have := cell_lt (hc k hlt); rw [HSS.out]; exact this)]; exact hc k hlt
          have hbk : bk < wr.heap.size := cell_lt c0
          have hfit := HOK.out (ks.getD k 0) (by simp [hlt])
          have HT : Hid (readAll most ⟨l, 0, 0⟩ (ks.take (k + 1)) = ((readAll most ⟨l, 0, 0⟩ (ks.take k)).1 ++ [(readIt (readAll most ⟨l, 0, 0⟩ (ks.take k)).2 (ks.getD k 0) most).1], (readIt (readAll most ⟨l, 0, 0⟩ (ks.take k)).2 (ks.getD k 0) most).2)) := by unfold Hid; rw [take_snoc_int ks k hlt, readAll_snoc]
          have HLN : Hid ((readAll most ⟨l, 0, 0⟩ (ks.take k)).1.length ≤ 1099511627776) := by unfold Hid; rw [readAll_len]; simp; omega
          generalize ks.getD k 0 = x at c0 hfit HT
          generalize readAll most ⟨l, 0, 0⟩ (ks.take k) = Y at HR HT HLN
          obtain ⟨ts, sx⟩ := Y
          simp only at HR HT HLN
          obtain ⟨q, how, hqq⟩ := HR.out.ow
          have HOQ : Hid (OwnI wr u10 ts q) := how
          have HQQ : Hid (∀ g', q = some g' → S < g' ∧ g' ≠ b ∧ g' ≠ g) := hqq
          have hblt := HR.out.qa.lt
          have HQA : Hid (QA (wr.alloc (.cells #[.int .i64 x, .int .u64 0, .string ⟨#[]⟩] 32)) b sx (some g)) := HR.out.qa.later ((Below.refl _ _).alloc (Nat.le_refl _) _)
          have hx : x = 0 ∨ x = 1 ∨ x = 2 ∨ x = 3 ∨ x = 4 ∨ x = 5 := by
            have : 0 ≤ x ∧ x ≤ 5 := by simpa [kindOk] using hfit
            omega
          clear hc hne hfit how hqq
          rcases hx with rfl | rfl | rfl | rfl | rfl | rfl
          · have hkk := True.intro
            obtain ⟨m, hm⟩ : ∃ m : Nat, (val 0 (sx.out 1)) % 256 = m := ⟨_, rfl⟩
            have hcv : (((val 0 (sx.out 1)) : Int) % 256) = (m : Int) := by rw [← hm]; simp
            have HXE : Hid (readIt sx 0 most = (⟨0, m, ⟨#[]⟩⟩, sx.on 1)) := by unfold Hid readIt; rw [← hm]; simp
            clear hm
            rw [HXE.out] at HT
            go_wp2_with fail
            refine (qaByte _ b g sx HQA.out).mono ?_
            rintro e w1 ⟨rfl, hq1, hg1⟩
            have HQ1 : Hid (QA w1 b (sx.on 1) (some g)) := hq1
            have hs1 := hg1.size
            have hbl1 := hg1.block wr.heap.size (by simp) (by simp; omega)
            have z0 : w1.cell? ⟨wr.heap.size, 0, none⟩ = some (.int .i64 0) := by rw [World.cell?_of_block (a := ⟨wr.heap.size, 0, none⟩) hbl1]; simp
            have z1 : w1.cell? ⟨wr.heap.size, 1, none⟩ = some (.int .u64 0) := by rw [World.cell?_of_block (a := ⟨wr.heap.size, 1, none⟩) hbl1]; simp
            have z2 : w1.cell? ⟨wr.heap.size, 2, none⟩ = some (.string ⟨#[]⟩) := by rw [World.cell?_of_block (a := ⟨wr.heap.size, 2, none⟩) hbl1]; simp
            have zf : ∀ j, w1.frozen? ⟨wr.heap.size, j, none⟩ = false := fun j => by rw [World.frozen?_of_block (a := ⟨wr.heap.size, j, none⟩) hbl1]; simp
            have zf1 := zf 1
            have zf2 := zf 2
            have HG1 : Hid (wr.grownBy w1 (some b)) := grow_trans (World.grownBy_alloc wr _ (some b)) hg1 (.inl rfl)
            have HOQ1 : Hid (OwnI w1 u10 ts q) := HOQ.out.kept HG1.out (by
              rcases hq : q with _ | g'
              · exact .inl rfl
              · right; have := (HQQ.out g' hq).2.1; simp; omega)
            have HS1 : Hid (wr.heap.size < w1.heap.size) := by unfold Hid; simp at hs1; omega
            have HQL : Hid (∀ g', q = some g' → g' < wr.heap.size) := fun g' hg' => by have := HOQ.out; rw [hg'] at this; exact this.lt
            clear hq1 hg1 hbl1 c0 HOQ zf hs1
            go_wp2_with (at_builtin; refine wpList_append_its _ rfl _ _ rfl _ _ ts [⟨0, m, ⟨#[]⟩⟩] q rfl rfl ?hOwn ?hSrc ?hLen ?hR ?_)
            case hSrc => exact src_it' (w1.setCell ⟨wr.heap.size, 1, none⟩ (.int .u64 ((m : Nat) : Int))) ⟨0, m, ⟨#[]⟩⟩ w1.heap.size (by simp [World.setCell])
            case hOwn =>
              refine (HOQ1.out.kept (grow_set w1 wr.heap.size _ _) ?_).later ((Below.refl _ _).alloc (Nat.le_refl _) _)
              rcases hq : q with _ | g'
              · exact .inl rfl
              · right; have := HQL.out g' hq; simp; omega
            case hLen => have := HLN.out; simp; omega
            case hR => exact .inr (by simp)
            intro v2 w2 g2 ho2 hg2 hr2
            have HN : Hid (Rf2 S (w.alloc (.cells #[.int .i64 0, .int .i64 0] 27)) w2 b g v2 (ts ++ [⟨0, m, ⟨#[]⟩⟩]) (sx.on 1)) := by
              have hlo : ∀ (j : Nat) (u : Value), Below wr.heap.size w1 (w1.setCell ⟨wr.heap.size, j, none⟩ u) := fun j u => (Below.refl wr.heap.size w1).setCell (p := ⟨wr.heap.size, j, none⟩) (Nat.le_refl _) u
              refine Rf2.next (q := q) HR.out ?_ ?_ HQQ.out ho2 hg2 ?_
              · exact (HQ1.out.low (hlo _ _) hblt HR.out.qa.glt).later ((Below.refl _ _).alloc (Nat.le_refl _) _)
              · exact grow_trans (grow_trans HG1.out (below_grow' (hlo _ _) HS1.out) (.inr (.inr ⟨_, rfl, Nat.le_refl _⟩))) (World.grownBy_alloc _ _ none) (.inr (.inl rfl))
              · rcases hr2 with e | e
                · exact .inl e
                · right; rw [e]; simp
            clear ho2 hg2 hr2 HR HQ1 HG1 HOQ1
            go_wp2
            go_roundw
            case rel => exact ⟨k + 1, by omega, by go_num, by rw [HT.out]; exact HN.out⟩
            case measure => simp [intOf]; omega
          · have hkk := True.intro
            have HXE : Hid (readIt sx 1 most = (⟨1, sx.num.1, ⟨#[]⟩⟩, sx.uvOn)) := by unfold Hid readIt; simp
            rw [HXE.out] at HT
            go_wp2_with fail
            refine (qaUvarint _ b g sx HQA.out).mono ?_
            rintro e w1 ⟨rfl, hq1, hg1⟩
            have HQ1 : Hid (QA w1 b (sx.uvOn) (some g)) := hq1
            have hs1 := hg1.size
            have hbl1 := hg1.block wr.heap.size (by simp) (by simp; omega)
            have z0 : w1.cell? ⟨wr.heap.size, 0, none⟩ = some (.int .i64 1) := by rw [World.cell?_of_block (a := ⟨wr.heap.size, 0, none⟩) hbl1]; simp
            have z1 : w1.cell? ⟨wr.heap.size, 1, none⟩ = some (.int .u64 0) := by rw [World.cell?_of_block (a := ⟨wr.heap.size, 1, none⟩) hbl1]; simp
            have z2 : w1.cell? ⟨wr.heap.size, 2, none⟩ = some (.string ⟨#[]⟩) := by rw [World.cell?_of_block (a := ⟨wr.heap.size, 2, none⟩) hbl1]; simp
            have zf : ∀ j, w1.frozen? ⟨wr.heap.size, j, none⟩ = false := fun j => by rw [World.frozen?_of_block (a := ⟨wr.heap.size, j, none⟩) hbl1]; simp
            have zf1 := zf 1
            have zf2 := zf 2
            have HG1 : Hid (wr.grownBy w1 (some b)) := grow_trans (World.grownBy_alloc wr _ (some b)) hg1 (.inl rfl)
            have HOQ1 : Hid (OwnI w1 u10 ts q) := HOQ.out.kept HG1.out (by
              rcases hq : q with _ | g'
              · exact .inl rfl
              · right; have := (HQQ.out g' hq).2.1; simp; omega)
            have HS1 : Hid (wr.heap.size < w1.heap.size) := by unfold Hid; simp at hs1; omega
            have HQL : Hid (∀ g', q = some g' → g' < wr.heap.size) := fun g' hg' => by have := HOQ.out; rw [hg'] at this; exact this.lt
            clear hq1 hg1 hbl1 c0 HOQ zf hs1
            go_wp2_with (at_builtin; refine wpList_append_its _ rfl _ _ rfl _ _ ts [⟨1, sx.num.1, ⟨#[]⟩⟩] q rfl rfl ?hOwn ?hSrc ?hLen ?hR ?_)
            case hSrc => exact src_it' (w1.setCell ⟨wr.heap.size, 1, none⟩ (.int .u64 ((sx.num.1 : Nat) : Int))) ⟨1, sx.num.1, ⟨#[]⟩⟩ w1.heap.size (by simp [World.setCell])
            case hOwn =>
              refine (HOQ1.out.kept (grow_set w1 wr.heap.size _ _) ?_).later ((Below.refl _ _).alloc (Nat.le_refl _) _)
              rcases hq : q with _ | g'
              · exact .inl rfl
              · right; have := HQL.out g' hq; simp; omega
            case hLen => have := HLN.out; simp; omega
            case hR => exact .inr (by simp)
            intro v2 w2 g2 ho2 hg2 hr2
            have HN : Hid (Rf2 S (w.alloc (.cells #[.int .i64 0, .int .i64 0] 27)) w2 b g v2 (ts ++ [⟨1, sx.num.1, ⟨#[]⟩⟩]) (sx.uvOn)) := by
              have hlo : ∀ (j : Nat) (u : Value), Below wr.heap.size w1 (w1.setCell ⟨wr.heap.size, j, none⟩ u) := fun j u => (Below.refl wr.heap.size w1).setCell (p := ⟨wr.heap.size, j, none⟩) (Nat.le_refl _) u
              refine Rf2.next (q := q) HR.out ?_ ?_ HQQ.out ho2 hg2 ?_
              · exact (HQ1.out.low (hlo _ _) hblt HR.out.qa.glt).later ((Below.refl _ _).alloc (Nat.le_refl _) _)
              · exact grow_trans (grow_trans HG1.out (below_grow' (hlo _ _) HS1.out) (.inr (.inr ⟨_, rfl, Nat.le_refl _⟩))) (World.grownBy_alloc _ _ none) (.inr (.inl rfl))
              · rcases hr2 with e | e
                · exact .inl e
                · right; rw [e]; simp
            clear ho2 hg2 hr2 HR HQ1 HG1 HOQ1
            go_wp2
            go_roundw
            case rel => exact ⟨k + 1, by omega, by go_num, by rw [HT.out]; exact HN.out⟩
            case measure => simp [intOf]; omega
          · have hkk := True.intro
            have HXE : Hid (readIt sx 2 most = (⟨2, sx.num.1, ⟨#[]⟩⟩, sx.uvOn)) := by unfold Hid readIt; simp
            rw [HXE.out] at HT
            go_wp2_with fail
            refine (qaUvarint _ b g sx HQA.out).mono ?_
            rintro e w1 ⟨rfl, hq1, hg1⟩
            have HQ1 : Hid (QA w1 b (sx.uvOn) (some g)) := hq1
            have hs1 := hg1.size
            have hbl1 := hg1.block wr.heap.size (by simp) (by simp; omega)
            have z0 : w1.cell? ⟨wr.heap.size, 0, none⟩ = some (.int .i64 2) := by rw [World.cell?_of_block (a := ⟨wr.heap.size, 0, none⟩) hbl1]; simp
            have z1 : w1.cell? ⟨wr.heap.size, 1, none⟩ = some (.int .u64 0) := by rw [World.cell?_of_block (a := ⟨wr.heap.size, 1, none⟩) hbl1]; simp
            have z2 : w1.cell? ⟨wr.heap.size, 2, none⟩ = some (.string ⟨#[]⟩) := by rw [World.cell?_of_block (a := ⟨wr.heap.size, 2, none⟩) hbl1]; simp
            have zf : ∀ j, w1.frozen? ⟨wr.heap.size, j, none⟩ = false := fun j => by rw [World.frozen?_of_block (a := ⟨wr.heap.size, j, none⟩) hbl1]; simp
            have zf1 := zf 1
            have zf2 := zf 2
            have HG1 : Hid (wr.grownBy w1 (some b)) := grow_trans (World.grownBy_alloc wr _ (some b)) hg1 (.inl rfl)
            have HOQ1 : Hid (OwnI w1 u10 ts q) := HOQ.out.kept HG1.out (by
              rcases hq : q with _ | g'
              · exact .inl rfl
              · right; have := (HQQ.out g' hq).2.1; simp; omega)
            have HS1 : Hid (wr.heap.size < w1.heap.size) := by unfold Hid; simp at hs1; omega
            have HQL : Hid (∀ g', q = some g' → g' < wr.heap.size) := fun g' hg' => by have := HOQ.out; rw [hg'] at this; exact this.lt
            clear hq1 hg1 hbl1 c0 HOQ zf hs1
            go_wp2_with (at_builtin; refine wpList_append_its _ rfl _ _ rfl _ _ ts [⟨2, sx.num.1, ⟨#[]⟩⟩] q rfl rfl ?hOwn ?hSrc ?hLen ?hR ?_)
            case hSrc => exact src_it' (w1.setCell ⟨wr.heap.size, 1, none⟩ (.int .u64 ((sx.num.1 : Nat) : Int))) ⟨2, sx.num.1, ⟨#[]⟩⟩ w1.heap.size (by simp [World.setCell])
            case hOwn =>
              refine (HOQ1.out.kept (grow_set w1 wr.heap.size _ _) ?_).later ((Below.refl _ _).alloc (Nat.le_refl _) _)
              rcases hq : q with _ | g'
              · exact .inl rfl
              · right; have := HQL.out g' hq; simp; omega
            case hLen => have := HLN.out; simp; omega
            case hR => exact .inr (by simp)
            intro v2 w2 g2 ho2 hg2 hr2
            have HN : Hid (Rf2 S (w.alloc (.cells #[.int .i64 0, .int .i64 0] 27)) w2 b g v2 (ts ++ [⟨2, sx.num.1, ⟨#[]⟩⟩]) (sx.uvOn)) := by
              have hlo : ∀ (j : Nat) (u : Value), Below wr.heap.size w1 (w1.setCell ⟨wr.heap.size, j, none⟩ u) := fun j u => (Below.refl wr.heap.size w1).setCell (p := ⟨wr.heap.size, j, none⟩) (Nat.le_refl _) u
              refine Rf2.next (q := q) HR.out ?_ ?_ HQQ.out ho2 hg2 ?_
              · exact (HQ1.out.low (hlo _ _) hblt HR.out.qa.glt).later ((Below.refl _ _).alloc (Nat.le_refl _) _)
              · exact grow_trans (grow_trans HG1.out (below_grow' (hlo _ _) HS1.out) (.inr (.inr ⟨_, rfl, Nat.le_refl _⟩))) (World.grownBy_alloc _ _ none) (.inr (.inl rfl))
              · rcases hr2 with e | e
                · exact .inl e
                · right; rw [e]; simp
            clear ho2 hg2 hr2 HR HQ1 HG1 HOQ1
            go_wp2
            go_roundw
            case rel => exact ⟨k + 1, by omega, by go_num, by rw [HT.out]; exact HN.out⟩
            case measure => simp [intOf]; omega
          · have hkk := True.intro
            obtain ⟨m, hm⟩ : ∃ m : Nat, (val 0 (sx.out 4)) % 4294967296 = m := ⟨_, rfl⟩
            have hcv : (((val 0 (sx.out 4)) : Int) % 4294967296) = (m : Int) := by rw [← hm]; simp
            have HXE : Hid (readIt sx 3 most = (⟨3, m, ⟨#[]⟩⟩, sx.on 4)) := by unfold Hid readIt; rw [← hm]; simp
            clear hm
            rw [HXE.out] at HT
            go_wp2_with fail
            refine (qaU32 _ b g sx HQA.out).mono ?_
            rintro e w1 ⟨rfl, hq1, hg1⟩
            have HQ1 : Hid (QA w1 b (sx.on 4) (some g)) := hq1
            have hs1 := hg1.size
            have hbl1 := hg1.block wr.heap.size (by simp) (by simp; omega)
            have z0 : w1.cell? ⟨wr.heap.size, 0, none⟩ = some (.int .i64 3) := by rw [World.cell?_of_block (a := ⟨wr.heap.size, 0, none⟩) hbl1]; simp
            have z1 : w1.cell? ⟨wr.heap.size, 1, none⟩ = some (.int .u64 0) := by rw [World.cell?_of_block (a := ⟨wr.heap.size, 1, none⟩) hbl1]; simp
            have z2 : w1.cell? ⟨wr.heap.size, 2, none⟩ = some (.string ⟨#[]⟩) := by rw [World.cell?_of_block (a := ⟨wr.heap.size, 2, none⟩) hbl1]; simp
            have zf : ∀ j, w1.frozen? ⟨wr.heap.size, j, none⟩ = false := fun j => by rw [World.frozen?_of_block (a := ⟨wr.heap.size, j, none⟩) hbl1]; simp
            have zf1 := zf 1
            have zf2 := zf 2
            have HG1 : Hid (wr.grownBy w1 (some b)) := grow_trans (World.grownBy_alloc wr _ (some b)) hg1 (.inl rfl)
            have HOQ1 : Hid (OwnI w1 u10 ts q) := HOQ.out.kept HG1.out (by
              rcases hq : q with _ | g'
              · exact .inl rfl
              · right; have := (HQQ.out g' hq).2.1; simp; omega)
            have HS1 : Hid (wr.heap.size < w1.heap.size) := by unfold Hid; simp at hs1; omega
            have HQL : Hid (∀ g', q = some g' → g' < wr.heap.size) := fun g' hg' => by have := HOQ.out; rw [hg'] at this; exact this.lt
            clear hq1 hg1 hbl1 c0 HOQ zf hs1
            go_wp2_with (at_builtin; refine wpList_append_its _ rfl _ _ rfl _ _ ts [⟨3, m, ⟨#[]⟩⟩] q rfl rfl ?hOwn ?hSrc ?hLen ?hR ?_)
            case hSrc => exact src_it' (w1.setCell ⟨wr.heap.size, 1, none⟩ (.int .u64 ((m : Nat) : Int))) ⟨3, m, ⟨#[]⟩⟩ w1.heap.size (by simp [World.setCell])
            case hOwn =>
              refine (HOQ1.out.kept (grow_set w1 wr.heap.size _ _) ?_).later ((Below.refl _ _).alloc (Nat.le_refl _) _)
              rcases hq : q with _ | g'
              · exact .inl rfl
              · right; have := HQL.out g' hq; simp; omega
            case hLen => have := HLN.out; simp; omega
            case hR => exact .inr (by simp)
            intro v2 w2 g2 ho2 hg2 hr2
            have HN : Hid (Rf2 S (w.alloc (.cells #[.int .i64 0, .int .i64 0] 27)) w2 b g v2 (ts ++ [⟨3, m, ⟨#[]⟩⟩]) (sx.on 4)) := by
              have hlo : ∀ (j : Nat) (u : Value), Below wr.heap.size w1 (w1.setCell ⟨wr.heap.size, j, none⟩ u) := fun j u => (Below.refl wr.heap.size w1).setCell (p := ⟨wr.heap.size, j, none⟩) (Nat.le_refl _) u
              refine Rf2.next (q := q) HR.out ?_ ?_ HQQ.out ho2 hg2 ?_
              · exact (HQ1.out.low (hlo _ _) hblt HR.out.qa.glt).later ((Below.refl _ _).alloc (Nat.le_refl _) _)
              · exact grow_trans (grow_trans HG1.out (below_grow' (hlo _ _) HS1.out) (.inr (.inr ⟨_, rfl, Nat.le_refl _⟩))) (World.grownBy_alloc _ _ none) (.inr (.inl rfl))
              · rcases hr2 with e | e
                · exact .inl e
                · right; rw [e]; simp
            clear ho2 hg2 hr2 HR HQ1 HG1 HOQ1
            go_wp2
            go_roundw
            case rel => exact ⟨k + 1, by omega, by go_num, by rw [HT.out]; exact HN.out⟩
            case measure => simp [intOf]; omega
          · have hkk := True.intro
            have HXE : Hid (readIt sx 4 most = (⟨4, val 0 (sx.out 8), ⟨#[]⟩⟩, sx.on 8)) := by unfold Hid readIt; simp
            rw [HXE.out] at HT
            go_wp2_with fail
            refine (qaU64 _ b g sx HQA.out).mono ?_
            rintro e w1 ⟨rfl, hq1, hg1⟩
            have HQ1 : Hid (QA w1 b (sx.on 8) (some g)) := hq1
            have hs1 := hg1.size
            have hbl1 := hg1.block wr.heap.size (by simp) (by simp; omega)
            have z0 : w1.cell? ⟨wr.heap.size, 0, none⟩ = some (.int .i64 4) := by rw [World.cell?_of_block (a := ⟨wr.heap.size, 0, none⟩) hbl1]; simp
            have z1 : w1.cell? ⟨wr.heap.size, 1, none⟩ = some (.int .u64 0) := by rw [World.cell?_of_block (a := ⟨wr.heap.size, 1, none⟩) hbl1]; simp
            have z2 : w1.cell? ⟨wr.heap.size, 2, none⟩ = some (.string ⟨#[]⟩) := by rw [World.cell?_of_block (a := ⟨wr.heap.size, 2, none⟩) hbl1]; simp
            have zf : ∀ j, w1.frozen? ⟨wr.heap.size, j, none⟩ = false := fun j => by rw [World.frozen?_of_block (a := ⟨wr.heap.size, j, none⟩) hbl1]; simp
            have zf1 := zf 1
            have zf2 := zf 2
            have HG1 : Hid (wr.grownBy w1 (some b)) := grow_trans (World.grownBy_alloc wr _ (some b)) hg1 (.inl rfl)
            have HOQ1 : Hid (OwnI w1 u10 ts q) := HOQ.out.kept HG1.out (by
              rcases hq : q with _ | g'
              · exact .inl rfl
              · right; have := (HQQ.out g' hq).2.1; simp; omega)
            have HS1 : Hid (wr.heap.size < w1.heap.size) := by unfold Hid; simp at hs1; omega
            have HQL : Hid (∀ g', q = some g' → g' < wr.heap.size) := fun g' hg' => by have := HOQ.out; rw [hg'] at this; exact this.lt
            clear hq1 hg1 hbl1 c0 HOQ zf hs1
            go_wp2_with (at_builtin; refine wpList_append_its _ rfl _ _ rfl _ _ ts [⟨4, val 0 (sx.out 8), ⟨#[]⟩⟩] q rfl rfl ?hOwn ?hSrc ?hLen ?hR ?_)
            case hSrc => exact src_it' (w1.setCell ⟨wr.heap.size, 1, none⟩ (.int .u64 ((val 0 (sx.out 8) : Nat) : Int))) ⟨4, val 0 (sx.out 8), ⟨#[]⟩⟩ w1.heap.size (by simp [World.setCell])
            case hOwn =>
              refine (HOQ1.out.kept (grow_set w1 wr.heap.size _ _) ?_).later ((Below.refl _ _).alloc (Nat.le_refl _) _)
              rcases hq : q with _ | g'
              · exact .inl rfl
              · right; have := HQL.out g' hq; simp; omega
            case hLen => have := HLN.out; simp; omega
            case hR => exact .inr (by simp)
            intro v2 w2 g2 ho2 hg2 hr2
            have HN : Hid (Rf2 S (w.alloc (.cells #[.int .i64 0, .int .i64 0] 27)) w2 b g v2 (ts ++ [⟨4, val 0 (sx.out 8), ⟨#[]⟩⟩]) (sx.on 8)) := by
              have hlo : ∀ (j : Nat) (u : Value), Below wr.heap.size w1 (w1.setCell ⟨wr.heap.size, j, none⟩ u) := fun j u => (Below.refl wr.heap.size w1).setCell (p := ⟨wr.heap.size, j, none⟩) (Nat.le_refl _) u
              refine Rf2.next (q := q) HR.out ?_ ?_ HQQ.out ho2 hg2 ?_
              · exact (HQ1.out.low (hlo _ _) hblt HR.out.qa.glt).later ((Below.refl _ _).alloc (Nat.le_refl _) _)
              · exact grow_trans (grow_trans HG1.out (below_grow' (hlo _ _) HS1.out) (.inr (.inr ⟨_, rfl, Nat.le_refl _⟩))) (World.grownBy_alloc _ _ none) (.inr (.inl rfl))
              · rcases hr2 with e | e
                · exact .inl e
                · right; rw [e]; simp
            clear ho2 hg2 hr2 HR HQ1 HG1 HOQ1
            go_wp2
            go_roundw
            case rel => exact ⟨k + 1, by omega, by go_num, by rw [HT.out]; exact HN.out⟩
            case measure => simp [intOf]; omega
          · have hkk := True.intro
            have HXE : Hid (readIt sx 5 most = (⟨5, 0, strOf (sx.textOut most)⟩, sx.textOn most)) := by unfold Hid readIt; simp
            rw [HXE.out] at HT
            go_wp2_with fail
            refine (qaText _ b g sx most hm1 hm2 HQA.out).mono ?_
            rintro e w1 ⟨rfl, hq1, hg1⟩
            have HQ1 : Hid (QA w1 b (sx.textOn most) (some g)) := hq1
            have hs1 := hg1.size
            have hbl1 := hg1.block wr.heap.size (by simp) (by simp; omega)
            have z0 : w1.cell? ⟨wr.heap.size, 0, none⟩ = some (.int .i64 5) := by rw [World.cell?_of_block (a := ⟨wr.heap.size, 0, none⟩) hbl1]; simp
            have z1 : w1.cell? ⟨wr.heap.size, 1, none⟩ = some (.int .u64 0) := by rw [World.cell?_of_block (a := ⟨wr.heap.size, 1, none⟩) hbl1]; simp
            have z2 : w1.cell? ⟨wr.heap.size, 2, none⟩ = some (.string ⟨#[]⟩) := by rw [World.cell?_of_block (a := ⟨wr.heap.size, 2, none⟩) hbl1]; simp
            have zf : ∀ j, w1.frozen? ⟨wr.heap.size, j, none⟩ = false := fun j => by rw [World.frozen?_of_block (a := ⟨wr.heap.size, j, none⟩) hbl1]; simp
            have zf1 := zf 1
            have zf2 := zf 2
            have HG1 : Hid (wr.grownBy w1 (some b)) := grow_trans (World.grownBy_alloc wr _ (some b)) hg1 (.inl rfl)
            have HOQ1 : Hid (OwnI w1 u10 ts q) := HOQ.out.kept HG1.out (by
              rcases hq : q with _ | g'
              · exact .inl rfl
              · right; have := (HQQ.out g' hq).2.1; simp; omega)
            have HS1 : Hid (wr.heap.size < w1.heap.size) := by unfold Hid; simp at hs1; omega
            have HQL : Hid (∀ g', q = some g' → g' < wr.heap.size) := fun g' hg' => by have := HOQ.out; rw [hg'] at this; exact this.lt
            clear hq1 hg1 hbl1 c0 HOQ zf hs1
            go_wp2_with (at_builtin; refine wpList_append_its _ rfl _ _ rfl _ _ ts [⟨5, 0, strOf (sx.textOut most)⟩] q rfl rfl ?hOwn ?hSrc ?hLen ?hR ?_)
            case hSrc => exact src_it' (w1.setCell ⟨wr.heap.size, 2, none⟩ (.string (strOf (sx.textOut most)))) ⟨5, 0, strOf (sx.textOut most)⟩ w1.heap.size (by simp [World.setCell])
            case hOwn =>
              refine (HOQ1.out.kept (grow_set w1 wr.heap.size _ _) ?_).later ((Below.refl _ _).alloc (Nat.le_refl _) _)
              rcases hq : q with _ | g'
              · exact .inl rfl
              · right; have := HQL.out g' hq; simp; omega
            case hLen => have := HLN.out; simp; omega
            case hR => exact .inr (by simp)
            intro v2 w2 g2 ho2 hg2 hr2
            have HN : Hid (Rf2 S (w.alloc (.cells #[.int .i64 0, .int .i64 0] 27)) w2 b g v2 (ts ++ [⟨5, 0, strOf (sx.textOut most)⟩]) (sx.textOn most)) := by
              have hlo : ∀ (j : Nat) (u : Value), Below wr.heap.size w1 (w1.setCell ⟨wr.heap.size, j, none⟩ u) := fun j u => (Below.refl wr.heap.size w1).setCell (p := ⟨wr.heap.size, j, none⟩) (Nat.le_refl _) u
              refine Rf2.next (q := q) HR.out ?_ ?_ HQQ.out ho2 hg2 ?_
              · exact (HQ1.out.low (hlo _ _) hblt HR.out.qa.glt).later ((Below.refl _ _).alloc (Nat.le_refl _) _)
              · exact grow_trans (grow_trans HG1.out (below_grow' (hlo _ _) HS1.out) (.inr (.inr ⟨_, rfl, Nat.le_refl _⟩))) (World.grownBy_alloc _ _ none) (.inr (.inl rfl))
              · rcases hr2 with e | e
                · exact .inl e
                · right; rw [e]; simp
            clear ho2 hg2 hr2 HR HQ1 HG1 HOQ1
            go_wp2
            go_roundw
            case rel => exact ⟨k + 1, by omega, by go_num, by rw [HT.out]; exact HN.out⟩
            case measure => simp [intOf]; omega
        · obtain rfl : k = ks.length := by omega
          have HU : Hid (Rf2 S (w.alloc (.cells #[.int .i64 0, .int .i64 0] 27)) wr b g u10 (upS ks most l).1 (upS ks most l).2) := by have := HR.out; rwa [List.take_length] at this
          have HUI : Hid (upItems ks most l = if (upS ks most l).2.endE = 0 then (upS ks most l).1 else []) := by unfold Hid upItems; rw [if_pos HOKA.out]
          have HUE : Hid (upE ks most l = (upS ks most l).2.endE) := by unfold Hid upE; rw [if_pos HOKA.out]
          have HUP : Hid (upP ks most l = (upS ks most l).2.endP) := by unfold Hid upP; rw [if_pos HOKA.out]
          clear HR HC HOK HOKA HB
          generalize upS ks most l = Y at HU HUI HUE HUP
          obtain ⟨ts, sx⟩ := Y
          simp only at HU HUI HUE HUP
          go_wp2_with fail
          refine (qaEnd wr b sx (some g) HU.out.qa).mono ?_
          rintro e w5 ⟨rfl, hb5⟩
          have HBE5 : Hid (Below (S + 1) (w.alloc (.cells #[.int .i64 0, .int .i64 0] 27)) w5) := HU.out.be.trans (hb5.mono HU.out.sz)
          obtain ⟨q, how, hqq⟩ := HU.out.ow
          have HOW5 : Hid (OwnI w5 u10 ts q) := how.later hb5
          have HQ1 : Hid (∀ g', q = some g' → S < g') := fun g' hg' => (hqq g' hg').1
          have HS5 : Hid (S < w5.heap.size) := by have := HU.out.sz; have := hb5.size; unfold Hid; omega
          have y0 : w5.cell? ⟨S, 0, none⟩ = some (.int .i64 0) := by rw [HBE5.out.cell (p := ⟨S, _, none⟩) (by simp)]; rw [HSS.out]; simp
          have y1 : w5.cell? ⟨S, 1, none⟩ = some (.int .i64 0) := by rw [HBE5.out.cell (p := ⟨S, _, none⟩) (by simp)]; rw [HSS.out]; simp
          have f0 : w5.frozen? ⟨S, 0, none⟩ = false := by rw [HBE5.out.frozen (p := ⟨S, _, none⟩) (by simp)]; rw [HSS.out]; simp
          have f1 : w5.frozen? ⟨S, 1, none⟩ = false := by rw [HBE5.out.frozen (p := ⟨S, _, none⟩) (by simp)]; rw [HSS.out]; simp
          have hsl := HS5.out
          have HFIN : Hid (∀ w6, Below S w5 w6 → Below w.heap.size w w6) := fun w6 k => by
            have h1 : Below S w w5 := HW.out.trans (HBE5.out.mono (by omega))
            rw [← HSS.out]
            exact h1.trans k
          have HQS : Hid (q = none ∨ q ≠ some S) := by
            rcases hq : q with _ | g'
            · exact .inl rfl
            · right; have := HQ1.out g' hq; simp; omega
          clear hb5 how hqq HU
          by_cases hz : sx.endE = 0
          · have he : (sx.endE != 0) = false := by simp [hz]
            have HP0 : Hid ((sx.endP : Int) = 0) := by unfold Hid; rw [endP_zero sx hz]; rfl
            have HZ : Hid (sx.endE = 0) := hz
            clear hz
            go_wp2
            go_region
            all_goals
              go_wp2
              refine bodyPost_ret (v := .tuple #[u10, .agg #[.int .i64 sx.endE, .int .i64 sx.endP]]) (by simp [results, Try.results12, go_sem, y0, y1, hsl]) rfl ⟨u10, q, ?_, ?_, ?_⟩
              · rw [HUE.out, HUP.out]
              · rw [HUI.out, if_pos HZ.out]
                exact ((HOW5.out.kept (grow_set _ S 0 _) HQS.out).kept (grow_set _ S 1 _) HQS.out).later ((Below.refl _ _).alloc (Nat.le_refl _) _).drew
              · exact HFIN.out _ ((((Below.refl S w5).setCell (Nat.le_refl _) _).setCell (Nat.le_refl _) _).alloc (by simp [World.setCell]; omega) _).drew
          · have he : (sx.endE != 0) = true := by simpa using hz
            have HZ : Hid (¬ sx.endE = 0) := hz
            clear hz
            go_wp2
            go_region
            all_goals
              go_wp2
              refine bodyPost_ret (v := .tuple #[.slice none 0 0, .agg #[.int .i64 sx.endE, .int .i64 sx.endP]]) (by simp [results, Try.results12, go_sem, y0, y1, hsl]) rfl ⟨.slice none 0 0, none, ?_, ?_, ?_⟩
              · rw [HUE.out, HUP.out]
              · rw [HUI.out, if_neg HZ.out]
                exact .inl ⟨rfl, rfl, rfl⟩
              · exact HFIN.out _ ((((Below.refl S w5).setCell (Nat.le_refl _) _).setCell (Nat.le_refl _) _).alloc (by simp [World.setCell]; omega) _).drew
end Go.Proofs.Ytjefbcphefckiac
