import Derived.Test.YtijfndlmhpjfmaaHkg
/-! hint: the walk of the law of keys. -/
namespace Go.Proofs.Ytijfndlmhpjfmaa
open Go.RowKit Plain Go.WideMaps Go.Maps
set_option linter.unusedVariables false
set_option linter.unusedSimpArgs false
theorem keys_ne {a b : ByteArray} (h : ¬ a = b) : (a.toList == b.toList) = false := by
  rw [beq_eq_false_iff_ne, ByteArray.toList_eq, ByteArray.toList_eq]
  exact fun e => h (WideShapes.bytes_inj e)
set_option maxHeartbeats 4000000 in
set_option maxRecDepth 100000 in
theorem keysWalk (s z : Int) (a : Option Addr) (cap : Nat) (st : List Pl) (w : World) (h : PlsAt w (.slice a st.length cap) st) : Calls Try.prog 3 #[.int .i64 s, .int .i64 z, .slice a st.length cap] w fun e w' => e = .returned (.bool true) ∧ Below w.heap.size w w' := by
  have HPL : Hid (∀ u, Below w.heap.size w u → PlsAt u (.slice a st.length cap) st) := fun u hu => h.later hu
  obtain ⟨a', cap', he, hcl, hok, hcells⟩ := h
  obtain ⟨rfl, -, rfl⟩ : a = a' ∧ True ∧ cap = cap' := by simpa using he
  have HC : Hid (st ≠ [] → ∃ b off, a = some ⟨b, off, none⟩ ∧ ∀ j, j < st.length → Pl.CellsAt w b (off + j * 9) (st.getD j Pl.zero)) := hcells
  have HOK : Hid (∀ x ∈ st, x.Ok) := hok
  clear hcells hok he
  go_enter Try.func3, Try.ntmps3
  go_wp2_with (at_builtin; refine wpList_append_p _ rfl _ _ rfl _ _ [] st (some w.heap.size) rfl rfl ?hOwn ?hSrc ?hLen ?hR ?_)
  case hOwn => exact OwnPl.empty w _
  case hSrc => exact src_pls (HPL.out _ ((Below.refl _ _).alloc (Nat.le_refl _) _))
  case hLen => simp; omega
  case hR => exact .inl (by simp)
  intro v1 w1 g1 ho1 hg1 hr1
  have HB1 : Hid (Below w.heap.size w w1) := ((Below.refl _ w).alloc (Nat.le_refl _) _).trans (grow_below hg1 (by simp) (fun g e => by cases e; omega))
  have HOF : Hid (Calls Try.prog 5 #[.int .i64 s, .int .i64 z, v1] w1 (OfPost s z st w1)) := ofOf s z v1 st w1 (ho1.recs hcl HOK.out)
  clear ho1 hg1 hr1
  go_wp2_with fail
  refine HOF.out.mono ?_
  rintro e w2 ⟨ah, nh, ch, rh, qs, rfl, hPO, hql, ho2, hr2, hb2⟩
  obtain ⟨a', c', he, hcm, hnc⟩ := ho2.shape
  rw [ents_len] at he hnc
  obtain ⟨rfl, rfl, rfl⟩ : ah = a' ∧ nh = qs.length ∧ ch = c' := by simpa using he
  have HPO : Hid (PlacesOk st qs) := hPO
  have HB2 : Hid (Below w.heap.size w w2) := HB1.out.trans (hb2.mono HB1.out.size)
  have HO2 : Hid (OwnHe w2 (.slice ah qs.length ch) (ents st qs) rh) := ho2
  have hs2 := HB2.out.size
  clear hPO ho2 hr2 hb2 HOF HB1 he
  go_wp2
  obtain ⟨w3, hw3⟩ : ∃ w3, w2.alloc (.cells #[.int .i64 s, .int .i64 z, .slice ah qs.length ch] 25) = w3 := ⟨_, rfl⟩
  have hb3 : Below w2.heap.size w2 w3 := by rw [← hw3]; exact (Below.refl _ _).alloc (Nat.le_refl _) _
  have HH3 : Hid (Hb w3 w2.heap.size s z (.slice ah qs.length ch)) := by rw [← hw3]; exact Hb.new _ _ _ _
  have HB3 : Hid (Below w.heap.size w w3) := HB2.out.trans (hb3.mono HB2.out.size)
  have HO3 : Hid (OwnHe w3 (.slice ah qs.length ch) (ents st qs) rh) := HO2.out.later hb3
  have hs3 : w2.heap.size < w3.heap.size := HH3.out.lt
  rw [hw3]
  clear hb3 hw3 HO2 HB2
  generalize w2.heap.size = H at *
  go_loopg [8, 9] qs.length (fun gk s8 s9 wx => ∃ (i : Nat), i + gk = qs.length ∧ s8 = .int .i64 (atOf qs i) ∧ s9 = .int .i64 i ∧ Hid (Below w3.heap.size w3 wx))
  case atStart => exact ⟨0, by omega, rfl, rfl, Below.refl _ _⟩
  case round =>
    obtain ⟨i, hig, rfl, rfl, HX⟩ := hrel
    have hsx : w3.heap.size ≤ wr.heap.size := HX.out.size
    obtain ⟨x0, x1, x2, -⟩ := HH3.out.block (HX.out.block _ hs3)
    cases gk with
    | zero =>
      obtain rfl : i = qs.length := by omega
      go_wp2
      have HXA : Hid (Below w3.heap.size w3 wr) := HX.out
      clear HX hsx x0 x1 x2
      go_loopg [14] st.length (fun gk s14 wx => ∃ (k : Nat), k + gk = st.length ∧ s14 = .int .i64 k ∧ Hid (Below w3.heap.size w3 wx))
      case atStart => exact ⟨0, by omega, rfl, HXA.out⟩
      case round =>
        clear HXA
        obtain ⟨k, hkg, rfl, HX⟩ := hrel
        cases gk with
        | zero =>
          obtain rfl : k = st.length := by omega
          have HF : Hid (Below w.heap.size w wr) := HB3.out.trans (HX.out.mono HB3.out.size)
          go_wp2
          go_ret
          exact ⟨rfl, HF.out⟩
        | succ gk1 =>
          have hk : k < st.length := by omega
          obtain ⟨b, off, rfl, hc⟩ := HC.out (by rintro rfl; simp at hk)
          obtain ⟨y, hy⟩ : ∃ y, st.getD k Pl.zero = y := ⟨_, rfl⟩
          have HCY : Hid (∀ u, Below w.heap.size w u → Pl.CellsAt u b (off + k * 9) y) := fun u hu => by rw [← hy]; exact (hc k hk).block (hu.block b (hc k hk).lt)
          have HCA : Hid (cntK st qs y.key qs.length = 1) := by have h := cntK_all HPO.out hk; unfold pk at h; rw [hy] at h; exact h
          have hki : (k : Int) < (st.length : Int) := by omega
          clear hc hy
          go_wp2
          go_loopg [15, 16] qs.length (fun gk s15 s16 wy => ∃ (i : Nat), i + gk = qs.length ∧ s15 = .int .i64 (cntK st qs y.key i : Nat) ∧ s16 = .int .i64 i ∧ Hid (Below w3.heap.size w3 wy))
          case atStart => exact ⟨0, by omega, rfl, rfl, HX.out⟩
          case round =>
            clear HX
            obtain ⟨i, hig, rfl, rfl, HX⟩ := hrel
            obtain ⟨x0, x1, x2, -⟩ := HH3.out.block (HX.out.block _ hs3)
            cases gk with
            | zero =>
              obtain rfl : i = qs.length := by omega
              rw [HCA.out]
              go_wp2
              go_roundg gk1
              case rel => exact ⟨k + 1, by omega, by go_num, HX.out⟩
              case measure => exact Nat.lt_succ_self _
            | succ gm1 =>
              have hi : i < qs.length := by omega
              obtain ⟨j, hj⟩ : ∃ j, qs[i]? = some j := ⟨_, List.getElem?_eq_getElem hi⟩
              have hec := ents_at st qs hj
              obtain ⟨ge, rfl⟩ : ∃ ge, rh = some ge := by
                cases rh with
                | none => rcases HO3.out with ⟨h1, h2, h3⟩ | ⟨g, c, h1, _⟩
                          · have := congrArg List.length h2; rw [ents_len, List.length_nil] at this; omega
                          · cases h1
                | some ge => exact ⟨ge, rfl⟩
              have hOx := HO3.out.later HX.out
              obtain rfl : ah = some ⟨ge, 0, none⟩ := by
                rcases hOx with ⟨_, _, h3⟩ | ⟨g, c, h1, h2, _⟩
                · cases h3
                · cases h1; simp at h2; exact h2.1
              obtain ⟨x, hx⟩ : ∃ x, st.getD j Pl.zero = x := ⟨_, rfl⟩
              have HCN : Hid (cntK st qs y.key (i + 1) = cntK st qs y.key i + if x.key = y.key then 1 else 0) := by have h := cntK_next (st := st) y.key hj; unfold pk at h; rw [hx] at h; exact h
              have hcle := cntK_le st qs y.key i
              rw [hx] at hec
              have hce := hOx.at (j := i) (by rw [ents_len]; exact hi)
              rw [hec] at hce
              obtain ⟨e0, e1, e2, e3, e4, e5⟩ := hce
              simp only [Pl.entry] at e0 e1 e2 e3 e4 e5
              obtain ⟨d0, d1, d2, d3, d4, d5, d6, d7, d8⟩ := HCY.out wr (HB3.out.trans (HX.out.mono HB3.out.size))
              have hii : (i : Int) < (qs.length : Int) := by omega
              clear hOx hec hx
              generalize cntK st qs y.key i = c at *
              by_cases hyx : x.key = y.key
              · have hB : (x.key.toList == y.key.toList) = true := by rw [hyx]; simp
                rw [if_pos hyx] at HCN
                go_wp2
                go_quiet (fail)
                go_wp2
                go_roundg gm1
                case rel => exact ⟨i + 1, by omega, by rw [HCN.out]; go_num, by go_num, below_drewN HX.out _⟩
                case measure => exact Nat.lt_succ_self _
              · have hB : (x.key.toList == y.key.toList) = false := keys_ne hyx
                rw [if_neg hyx] at HCN
                go_wp2
                go_quiet (fail)
                go_wp2
                go_roundg gm1
                case rel => exact ⟨i + 1, by omega, by rw [HCN.out]; rfl, by go_num, below_drewN HX.out _⟩
                case measure => exact Nat.lt_succ_self _
    | succ gk1 =>
      have hi : i < qs.length := by omega
      obtain ⟨j, hj⟩ : ∃ j, qs[i]? = some j := ⟨_, List.getElem?_eq_getElem hi⟩
      have hlp := HPO.out.mem j (List.mem_of_getElem? hj)
      have hjl : j < st.length := hlp.1
      have HLI : Hid (lastIn st (pk st j) st.length = j) := lastIn_last hlp
      have hat := atOf_lt HPO.out.up hj
      have hnx := atOf_next hj
      have hec := ents_at st qs hj
      obtain ⟨ge, rfl⟩ : ∃ ge, rh = some ge := by
        cases rh with
        | none => rcases HO3.out with ⟨h1, h2, h3⟩ | ⟨g, c, h1, _⟩
                  · have := congrArg List.length h2; rw [ents_len, List.length_nil] at this; omega
                  · cases h1
        | some ge => exact ⟨ge, rfl⟩
      have hOx := HO3.out.later HX.out
      obtain rfl : ah = some ⟨ge, 0, none⟩ := by
        rcases hOx with ⟨_, _, h3⟩ | ⟨g, c, h1, h2, _⟩
        · cases h3
        · cases h1; simp at h2; exact h2.1
      obtain ⟨x, hx⟩ : ∃ x, st.getD j Pl.zero = x := ⟨_, rfl⟩
      have HXJ : Hid (st.getD j Pl.zero = x) := hx
      have HLX : Hid (lastIn st x.key st.length = j) := by have h := HLI.out; unfold pk at h; rw [hx] at h; exact h
      rw [hx] at hec
      have hce := hOx.at (j := i) (by rw [ents_len]; exact hi)
      rw [hec] at hce
      obtain ⟨e0, e1, e2, e3, e4, e5⟩ := hce
      simp only [Pl.entry] at e0 e1 e2 e3 e4 e5
      have hii : (i : Int) < (qs.length : Int) := by omega
      clear hOx hec hlp hx HLI
      go_wp2
      obtain ⟨wE, hwE⟩ : ∃ wE, wr.alloc (.cells #[.string x.key, .int .i64 x.o, .int .i64 x.t, .bool (x.k == 2), .int .i64 x.pos, .int .i64 x.len] 28) = wE := ⟨_, rfl⟩
      have hbE : Below wr.heap.size wr wE := by rw [← hwE]; exact (Below.refl _ _).alloc (Nat.le_refl _) _
      have HXE : Hid (Below w3.heap.size w3 wE) := HX.out.trans (hbE.mono hsx)
      have HEC : Hid (He.CellsAt wE wr.heap.size 0 x.entry) := by
        unfold Hid
        rw [← hwE]
        refine ⟨?_, ?_, ?_, ?_, ?_, ?_⟩ <;> (rw [World.cell?_alloc_at _ _ _ _ rfl]; rfl)
      rw [hwE]
      clear hwE hbE x0 x1 x2 e0 e1 e2 e3 e4 e5 HX
      generalize wr.heap.size = E at *
      clear wr
      go_loopg [11, 12] st.length (fun gm s11 s12 wy => ∃ (k : Nat), k + gm = st.length ∧ s11 = .int .i64 (lastIn st x.key k) ∧ s12 = .int .i64 k ∧ Hid (Below wE.heap.size wE wy))
      case atStart => exact ⟨0, by omega, rfl, rfl, Below.refl _ _⟩
      case round =>
        obtain ⟨k, hkg, rfl, rfl, HY⟩ := hrel
        have hck := HEC.out.block (HY.out.block _ HEC.out.lt)
        obtain ⟨e0, e1, e2, e3, e4, e5⟩ := hck
        simp only [Pl.entry, Nat.zero_add] at e0 e1 e2 e3 e4 e5
        have HYB : Hid (Below w.heap.size w wr) := HB3.out.trans ((HXE.out.trans (HY.out.mono HXE.out.size)).mono (HB3.out.size))
        cases gk with
        | zero =>
          obtain rfl : k = st.length := by omega
          obtain ⟨b, off, rfl, hc⟩ := HC.out (by rintro rfl; simp at hjl)
          have hcy := (hc j hjl).block (HYB.out.block b (hc j hjl).lt)
          rw [HXJ.out] at hcy
          obtain ⟨d0, d1, d2, d3, d4, d5, d6, d7, d8⟩ := hcy
          have hji : (j : Int) < (st.length : Int) := by omega
          have hle : decide ((j : Int) ≤ atOf qs i) = false := decide_eq_false (by omega)
          have HW3 : Hid (Below w3.heap.size w3 wr) := HXE.out.trans (HY.out.mono HXE.out.size)
          have hw3 := HW3.out.size
          have hEl : E < wr.heap.size := cell_lt e0
          have ea : ∀ (o : Obj) (t : Nat), (wr.alloc o).cell? ⟨E, t, none⟩ = wr.cell? ⟨E, t, none⟩ := fun o t => World.cell?_of_block (w := wr) (a := ⟨E, t, none⟩) (((Below.refl _ wr).alloc (Nat.le_refl _) o).block _ hEl)
          rw [HLX.out]
          clear hc
          go_wp2
          go_roundg gk1
          case rel => exact ⟨i + 1, by omega, by rw [hnx], by go_num, HW3.out.alloc hw3 _⟩
          case measure => exact Nat.lt_succ_self _
        | succ gm1 =>
          have hk : k < st.length := by omega
          obtain ⟨b, off, rfl, hc⟩ := HC.out (by rintro rfl; simp at hk)
          have hcy := (hc k hk).block (HYB.out.block b (hc k hk).lt)
          obtain ⟨y, hy⟩ : ∃ y, st.getD k Pl.zero = y := ⟨_, rfl⟩
          have HLN : Hid (lastIn st x.key (k + 1) = if y.key = x.key then (k : Int) else lastIn st x.key k) := by
            show (if pk st k = x.key then (k : Int) else lastIn st x.key k) = _
            unfold pk
            rw [hy]
          rw [hy] at hcy
          obtain ⟨d0, d1, d2, d3, d4, d5, d6, d7, d8⟩ := hcy
          have hki : (k : Int) < (st.length : Int) := by omega
          clear hc hy
          go_wp2
          by_cases hyx : y.key = x.key
          · have hB : (y.key.toList == x.key.toList) = true := by rw [hyx]; simp
            rw [if_pos hyx] at HLN
            go_quiet (fail)
            go_wp2
            go_roundg gm1
            case rel => exact ⟨k + 1, by omega, by rw [HLN.out], by go_num, below_drewN HY.out _⟩
            case measure => exact Nat.lt_succ_self _
          · have hB : (y.key.toList == x.key.toList) = false := keys_ne hyx
            rw [if_neg hyx] at HLN
            go_quiet (fail)
            go_wp2
            go_roundg gm1
            case rel => exact ⟨k + 1, by omega, by rw [HLN.out], by go_num, below_drewN HY.out _⟩
            case measure => exact Nat.lt_succ_self _
end Go.Proofs.Ytijfndlmhpjfmaa
