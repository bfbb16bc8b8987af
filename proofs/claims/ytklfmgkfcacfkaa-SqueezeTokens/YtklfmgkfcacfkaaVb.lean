import Derived.Test.YtklfmgkfcacfkaaVa
/-! apart. -/
namespace Go.Proofs.Ytklfmgkfcacfkaa
open Go.RowKit Plain
set_option linter.unusedVariables false
set_option linter.unusedSimpArgs false

set_option maxHeartbeats 4000000 in
set_option maxRecDepth 100000 in
theorem apartAny (base : Nat) (v : Value) (ts : List Tk) (r : Option Nat) (w : World) (h : TRow base w v ts r) (hf : ∀ t ∈ ts, t.len ≤ 4096) (hlen : ts.length ≤ 8192) :
    Calls Try.prog 24 #[v] w fun e w' => e = .returned (.bool true) ∧ Chg (fun g => ∃ l, Tk.lit g l ∈ ts) w w' := by
  obtain ⟨a, cap, rfl, hcm, hlc⟩ := h.own.shape
  unfold maxLen at hcm
  have HT : Hid (TRow base w (.slice a ts.length cap) ts r) := h
  have HA0 : Hid (Apt w w (.slice a ts.length cap) ts r (litAt ts)) := Apt.start h
  have HF : Hid (∀ t ∈ ts, t.len ≤ 4096) := hf
  clear h hf
  go_enter Try.func24, Try.ntmps24
  go_wp2
  go_loopw [3] (fun s wr => ∃ (i : Nat) (f : Nat → List Nat), s = .int .i64 i ∧ i ≤ ts.length ∧ Apt w wr (.slice a ts.length cap) ts r f ∧ Hid (∀ j g l, j < i → ts[j]? = some (Tk.lit g l) → ∀ k, k < l.length → (f j).getD k 0 = j % 100)) (fun s _ => ts.length - (intOf s).toNat)
  case atStart => exact ⟨0, _, rfl, by omega, HA0.out, fun j g l hj => by omega⟩
  case round =>
    obtain ⟨i, f, rfl, hi, hap, HJ⟩ := hrel
    have HA : Hid (Apt w wr (.slice a ts.length cap) ts r f) := hap
    clear hap HA0
    by_cases hlt : i < ts.length
    · obtain ⟨gr, a6, n6, hag, hcell, hn6, hshape⟩ := HA.out.cell hlt
      have hn6' : n6 ≤ 4096 := hn6 (HF.out _ (List.getElem_mem hlt))
      subst hag
      have HSH : Hid ((a6 = none ∧ n6 = 0 ∧ ∃ d m, ts[i]? = some (Tk.mat d m)) ∨ ∃ g l, a6 = some ⟨g, 0, none⟩ ∧ n6 = l.length ∧ ts[i]? = some (Tk.lit g l)) := hshape
      have HCL : Hid (∀ (W : World) (f' : Nat → List Nat), Apt w W (.slice (some ⟨gr, 0, none⟩) ts.length cap) ts r f' → W.cell? ⟨gr, i * 3, none⟩ = some (.slice a6 n6 n6)) := fun W f' hW => by
        obtain ⟨gr', a6', n6', e1, e2, _, e4⟩ := hW.cell hlt
        simp at e1
        subst e1
        rcases HSH.out with ⟨rfl, rfl, d, m, h1⟩ | ⟨g, l, rfl, rfl, h1⟩
        · rcases e4 with ⟨rfl, rfl, _⟩ | ⟨g', l', _, _, h2⟩
          · exact e2
          · rw [h1] at h2; simp at h2
        · rcases e4 with ⟨_, _, d, m, h2⟩ | ⟨g', l', rfl, rfl, h2⟩
          · rw [h1] at h2; simp at h2
          · rw [h1] at h2
            simp at h2
            obtain ⟨rfl, rfl⟩ := h2
            exact e2
      have hI1 : (i : Int).tmod 100 = ((i % 100 : Nat) : Int) := by rw [Int.tmod_eq_emod_of_nonneg (by omega)]; omega
      have hI2 : (i : Int) % 100 = ((i % 100 : Nat) : Int) := by omega
      obtain ⟨y, hy⟩ : ∃ y, i % 100 = y := ⟨_, rfl⟩
      rw [hy] at hI1 hI2
      have HY : Hid (i % 100 = y) := hy
      have hy2 : y < 100 := by omega
      have hI3 : (y : Int) % 256 = (y : Int) := by omega
      clear hshape hn6 hcell hy
      go_wp2
      go_loopw [4] (fun s wx => ∃ (k : Nat) (f : Nat → List Nat), s = .int .i64 k ∧ k ≤ n6 ∧ Apt w wx (.slice (some ⟨gr, 0, none⟩) ts.length cap) ts r f ∧ Hid ((∀ j g l, j < i → ts[j]? = some (Tk.lit g l) → ∀ k, k < l.length → (f j).getD k 0 = j % 100) ∧ ∀ m, m < k → (f i).getD m 0 = y)) (fun s _ => n6 - (intOf s).toNat)
      case atStart => exact ⟨0, f, rfl, by omega, HA.out, HJ.out, fun m hm => by omega⟩
      case round =>
        obtain ⟨k, f2, rfl, hk, hap2, HJ2⟩ := hrel
        have HA2 : Hid (Apt w wr (.slice (some ⟨gr, 0, none⟩) ts.length cap) ts r f2) := hap2
        have hcell := HCL.out wr f2 hap2
        clear hap2 HA HJ
        by_cases hkn : k < n6
        · obtain ⟨g, l, rfl, hn6l, hti⟩ : ∃ g l, a6 = some ⟨g, 0, none⟩ ∧ n6 = l.length ∧ ts[i]? = some (Tk.lit g l) := by
            rcases HSH.out with ⟨_, h2, _⟩ | h2
            · omega
            · exact h2
          obtain ⟨ho, hol⟩ := HA2.out.lits i g l hti
          obtain ⟨g', e1, _, hold⟩ := ho.get (j := k) (by omega)
          simp at e1; subst e1
          have hfz := ho.fz (j := k) (by omega)
          have HN : Hid (Apt w (wr.setCell ⟨g, k, none⟩ (.int .u8 (y : Int))) (.slice (some ⟨gr, 0, none⟩) ts.length cap) ts r (fun j => if j = i then (f2 i).set k y else f2 j)) := HA2.out.set HT.out hti (by omega) (by omega)
          have HJ3 : Hid ((∀ j g l, j < i → ts[j]? = some (Tk.lit g l) → ∀ k', k' < l.length → ((fun j => if j = i then (f2 i).set k y else f2 j) j).getD k' 0 = j % 100) ∧ ∀ m, m < k + 1 → ((fun j => if j = i then (f2 i).set k y else f2 j) i).getD m 0 = y) := by
            refine ⟨fun j g l hj e k' hk' => ?_, fun m hm => ?_⟩
            · simp only [show j ≠ i by omega, if_false]
              exact HJ2.out.1 j g l hj e k' hk'
            · simp only [if_true]
              by_cases hmk : m = k
              · subst hmk
                simp [List.getD_eq_getElem?_getD, List.getElem?_set, show m < (f2 i).length by omega]
              · have := HJ2.out.2 m (by omega)
                simp only [List.getD_eq_getElem?_getD, List.getElem?_set] at this ⊢
                rw [if_neg (Ne.symm hmk)]
                exact this
          generalize (f2 i).getD k 0 = z at hold
          generalize (fun j => if j = i then (f2 i).set k y else f2 j) = f3 at HN HJ3
          clear ho hol hti hn6l HJ2 HSH
          go_wp2
          go_roundw
          case rel => exact ⟨k + 1, f3, by go_num, by omega, HN.out, HJ3.out⟩
          case measure => simp [intOf]; omega
        · obtain rfl : k = n6 := by omega
          have HJ4 : Hid (∀ j g l, j < i + 1 → ts[j]? = some (Tk.lit g l) → ∀ k, k < l.length → (f2 j).getD k 0 = j % 100) := fun j g l hj e k' hk' => by
            by_cases hji : j = i
            · subst hji
              rw [HY.out]
              rcases HSH.out with ⟨_, _, d, m, h2⟩ | ⟨g2, l2, _, h3, h2⟩
              · rw [e] at h2; simp at h2
              · rw [e] at h2
                simp at h2
                obtain ⟨rfl, rfl⟩ := h2
                exact HJ2.out.2 k' (by omega)
            · exact HJ2.out.1 j g l (by omega) e k' hk'
          clear HJ2 HSH HCL hkn
          go_wp2
          go_roundw
          case rel => exact ⟨i + 1, f2, by go_num, by omega, HA2.out, HJ4.out⟩
          case measure => simp [intOf]; omega
    · obtain rfl : i = ts.length := by omega
      clear hlt hi
      go_wp2
      go_loopw [5] (fun s wx => ∃ (i : Nat), s = .int .i64 i ∧ i ≤ ts.length ∧ Apt w wx (.slice a ts.length cap) ts r f) (fun s _ => ts.length - (intOf s).toNat)
      case atStart => exact ⟨0, rfl, by omega, HA.out⟩
      case round =>
        obtain ⟨i, rfl, hi, hap⟩ := hrel
        clear HA
        have HA : Hid (Apt w wr (.slice a ts.length cap) ts r f) := hap
        clear hap
        by_cases hlt : i < ts.length
        · obtain ⟨gr, a6, n6, hag, hcell, hn6, hshape⟩ := HA.out.cell hlt
          have hn6' : n6 ≤ 4096 := hn6 (HF.out _ (List.getElem_mem hlt))
          subst hag
          obtain ⟨x, hx⟩ : ∃ x, i % 50 = x := ⟨_, rfl⟩
          have hI1 : (i : Int).tmod 50 = (x : Int) := by rw [Int.tmod_eq_emod_of_nonneg (by omega)]; omega
          have hI2 : (i : Int) % 50 = (x : Int) := by omega
          have hx2 : x < 50 := by omega
          obtain ⟨y, hy⟩ : ∃ y, 150 + x = y := ⟨_, rfl⟩
          have hy2 : y < 256 := by omega
          have hI3 : 150 + (x : Int) = (y : Int) := by omega
          have hI5 : (y : Int) % 256 = (y : Int) := by omega
          clear hx
          obtain ⟨wo, hwo⟩ : ∃ wo, wr = wo := ⟨_, rfl⟩
          have HL0 : Hid ((∃ us q, Gw wo wo (.slice a6 n6 n6) us q ∧ us.length = n6) ∨ ∃ g, a6 = some ⟨g, 0, none⟩ ∧ Own wo (.slice (some ⟨g, 0, none⟩) n6 n6) (f i) (some g) ∧ (f i).length = n6) := by
            rw [← hwo]
            rcases hshape with ⟨rfl, rfl, _⟩ | ⟨g, l, rfl, rfl, hti⟩
            · exact .inl ⟨[], none, ⟨Own.nil _, by simp, Below.refl _ _⟩, rfl⟩
            · obtain ⟨h1, h2⟩ := HA.out.lits i g l hti
              exact .inr ⟨g, rfl, h1, h2⟩
          rw [hwo] at hcell HA ⊢
          clear hwo hshape hn6 hy
          go_wp2
          go_loopw [6, 7] (fun s6 s7 wx => ∃ (k : Nat) (a' : Option Addr) (n' c' : Nat), s7 = .int .i64 k ∧ k ≤ 64 ∧ s6 = .slice a' n' c' ∧ ((k = 0 ∧ wx = wo ∧ n' = n6 ∧ c' = n6 ∧ ∃ g, a' = some ⟨g, 0, none⟩ ∧ Own wo (.slice (some ⟨g, 0, none⟩) n6 n6) (f i) (some g) ∧ (f i).length = n6) ∨ ∃ us q, Gw wo wx (.slice a' n' c') us q ∧ us.length = n6 + k)) (fun _ s _ => 64 - (intOf s).toNat)
          case atStart =>
            refine ⟨0, a6, n6, n6, rfl, by omega, rfl, ?_⟩
            rcases HL0.out with ⟨us, q, h1, h2⟩ | ⟨g, h1, h2, h3⟩
            · exact .inr ⟨us, q, h1, by omega⟩
            · exact .inl ⟨rfl, rfl, rfl, rfl, g, h1, h2, h3⟩
          case round =>
            obtain ⟨k, a', n', c', rfl, hk, rfl, hst⟩ := hrel
            clear HL0
            by_cases hk64 : k < 64
            · rcases hst with ⟨hk0, hwx, hn', hc', g, rfl, ho, hol⟩ | ⟨us, q, hgw, hus⟩
              · subst hk0 hwx hn' hc'
                have HO : Hid (Own wr (.slice (some ⟨g, 0, none⟩) c' c') (f i) (some g)) := ho
                have HOL : Hid ((f i).length = c') := hol
                clear ho hol hcell
                generalize f i = us at HO HOL
                go_wp2_with (at_builtin; refine wpList_append_full _ rfl _ _ 22 22 rfl Try.underlying22 g c' _ us [y] rfl rfl ?hOwn ?hLn ?hByte (List.cons_ne_nil _ _) ?hSrc ?hLen ?_)
                case hOwn => exact HO.out.later ((Below.refl _ _).alloc (Nat.le_refl _) _)
                case hLn => exact HOL.out
                case hByte => first | exact hy2 | (intro z hz; rw [List.mem_singleton] at hz; omega)
                case hSrc => exact src_one wr y 22 5 Try.underlying22
                case hLen => have h1 := HOL.out; simp; omega
                intro v' w3 ho3 hg3
                obtain ⟨a3, c3, rfl⟩ := ho3.isSlice
                have hl3 : (us ++ [y]).length = c' + 1 := by have := HOL.out; simp; omega
                have HG3 : Hid (Gw wr w3 (.slice a3 (us ++ [y]).length c3) (us ++ [y]) (some (wr.heap.size + 1))) := by
                  refine ⟨?_, ?_, ?_⟩
                  · simpa using ho3
                  · intro x hx; simp at hx; omega
                  · exact below_on ((Below.refl _ _).alloc (Nat.le_refl _) _) (grow_below hg3 (Nat.le_refl _) (by simp))
                have HL3 : Hid ((us ++ [y]).length = c' + 1) := hl3
                obtain ⟨us3, hus3⟩ : ∃ us3, us ++ [y] = us3 := ⟨_, rfl⟩
                rw [hus3] at HG3 HL3 ⊢
                obtain ⟨n3, hn3'⟩ : ∃ n3, us3.length = n3 := ⟨_, rfl⟩
                rw [hn3'] at HG3 ⊢
                clear ho3 hg3 hl3 hus3 hn3'
                go_wp2
                go_roundw
                case rel => exact ⟨1, a3, n3, c3, by first | rfl | go_num, by omega, rfl, .inr ⟨us3, _, HG3.out, HL3.out⟩⟩
                case measure => simp [intOf]
              · have HG : Hid (Gw wo wr (.slice a' n' c') us q) := hgw
                have HU : Hid (us.length = n6 + k) := hus
                clear hgw hus hcell
                go_wp2_with (at_builtin; refine wpList_append_row _ rfl _ _ 22 22 rfl Try.underlying22 _ _ us [y] q rfl rfl ?hOwnR ?hByteR ?hSrcR ?hLenR ?_)
                case hOwnR => exact HG.out.ow.later ((Below.refl _ _).alloc (Nat.le_refl _) _)
                case hByteR => first | exact hy2 | (intro z hz; rw [List.mem_singleton] at hz; omega)
                case hSrcR => exact src_one wr y 22 5 Try.underlying22
                case hLenR => have h1 := HU.out; simp; omega
                intro v' w3 r3 ho3 hg3 hr3 hn3
                obtain ⟨a3, c3, rfl⟩ := ho3.isSlice
                have HG3 : Hid (Gw wo w3 (.slice a3 (us ++ [y]).length c3) (us ++ [y]) r3) := HG.out.more ((Below.refl _ _).alloc (Nat.le_refl _) _) ho3 hg3 (by simpa using hr3)
                have HL3 : Hid ((us ++ [y]).length = n6 + (k + 1)) := by have := HU.out; unfold Hid; simp; omega
                obtain ⟨us3, hus3⟩ : ∃ us3, us ++ [y] = us3 := ⟨_, rfl⟩
                rw [hus3] at HG3 HL3 ⊢
                obtain ⟨n3, hn3'⟩ : ∃ n3, us3.length = n3 := ⟨_, rfl⟩
                rw [hn3'] at HG3 ⊢
                have HU3 : Hid (us3.length = n6 + (k + 1)) := HL3.out
                clear ho3 hg3 hr3 hn3 hus3 hn3' HL3
                go_wp2
                go_roundw
                case rel => exact ⟨k + 1, a3, n3, c3, by go_num, by omega, rfl, .inr ⟨us3, r3, HG3.out, HU3.out⟩⟩
                case measure => simp [intOf]; omega
            · obtain rfl : k = 64 := by omega
              have HB : Hid (Below wo.heap.size wo wr) := by
                rcases hst with ⟨h0, _⟩ | ⟨us, q, hgw, _⟩
                · omega
                · exact hgw.be
              have HA9 : Hid (Apt w wr (.slice (some ⟨gr, 0, none⟩) ts.length cap) ts r f) := HA.out.later HB.out
              clear hst hk64 hcell
              go_wp2
              go_roundw
              case rel => exact ⟨i + 1, by go_num, by omega, HA9.out⟩
              case measure => simp [intOf]; omega
        · obtain rfl : i = ts.length := by omega
          clear hlt hi
          obtain ⟨wo, hwo⟩ : ∃ wo, wr = wo := ⟨_, rfl⟩
          rw [hwo] at HA ⊢
          clear hwo
          go_wp2
          go_loopw [8] (fun s wx => ∃ i m : Nat, wx = wo.drewN m ∧ s = .int .i64 i ∧ i ≤ ts.length) (fun s _ => ts.length - (intOf s).toNat)
          case atStart => exact ⟨0, 0, rfl, rfl, by omega⟩
          case round =>
            obtain ⟨i, m, rfl, rfl, hi⟩ := hrel
            by_cases hlt : i < ts.length
            · obtain ⟨gr, a6, n6, hag, hcell, hn6, hshape⟩ := HA.out.cell hlt
              have hn6' : n6 ≤ 4096 := hn6 (HF.out _ (List.getElem_mem hlt))
              subst hag
              have hI1 : (i : Int).tmod 100 = ((i % 100 : Nat) : Int) := by rw [Int.tmod_eq_emod_of_nonneg (by omega)]; omega
              have hI2 : (i : Int) % 100 = ((i % 100 : Nat) : Int) := by omega
              obtain ⟨y, hy⟩ : ∃ y, i % 100 = y := ⟨_, rfl⟩
              rw [hy] at hI1 hI2
              have hy2 : y < 100 := by omega
              have hI3 : (y : Int) % 256 = (y : Int) := by omega
              have HLC : Hid (∀ k, k < n6 → ∃ g, a6 = some ⟨g, 0, none⟩ ∧ wo.cell? ⟨g, k, none⟩ = some (.int .u8 (y : Int))) := fun k hk => by
                rcases hshape with ⟨_, h2, _⟩ | ⟨g, l, h1, h2, h3⟩
                · omega
                · obtain ⟨ho, hol⟩ := HA.out.lits i g l h3
                  obtain ⟨g', e1, _, hc⟩ := ho.get (j := k) (by omega)
                  simp at e1; subst e1
                  have := HJ.out i g l hlt h3 k (by omega)
                  rw [this, hy] at hc
                  exact ⟨g, h1, hc⟩
              have hcellD : ∀ q, (wo.drewN q).cell? ⟨gr, i * 3, none⟩ = some (.slice a6 n6 n6) := fun q => hcell
              have HCD : Hid (∀ q, (wo.drewN q).cell? ⟨gr, i * 3, none⟩ = some (.slice a6 n6 n6)) := hcellD
              clear hshape hn6 hy hcell hcellD
              have hc0 := HCD.out m
              go_wp2
              go_loopw [9] (fun s wx => ∃ k m : Nat, wx = wo.drewN m ∧ s = .int .i64 k ∧ k ≤ n6) (fun s _ => n6 - (intOf s).toNat)
              case atStart => exact ⟨0, m, rfl, rfl, by omega⟩
              case round =>
                obtain ⟨k, m, rfl, rfl, hk⟩ := hrel
                have hcell := HCD.out m
                by_cases hkn : k < n6
                · obtain ⟨g, rfl, hc⟩ := HLC.out k hkn
                  have hcd : (wo.drewN m).cell? ⟨g, k, none⟩ = some (.int .u8 (y : Int)) := hc
                  clear hc
                  have hyy : ((y : Int) != (y : Int)) = false := by simp
                  go_wp2
                  go_roundw
                  case rel => exact ⟨k + 1, _, rfl, by go_num, by omega⟩
                  case measure => simp [intOf]; omega
                · obtain rfl : k = n6 := by omega
                  go_wp2
                  go_roundw
                  case rel => exact ⟨i + 1, _, rfl, by go_num, by omega⟩
                  case measure => simp [intOf]; omega
            · obtain rfl : i = ts.length := by omega
              have HCH : Hid (Chg (fun g => ∃ l, Tk.lit g l ∈ ts) w (wo.drewN m)) := HA.out.chg.drew m
              go_wp2
              go_ret
              exact ⟨rfl, HCH.out⟩
end Go.Proofs.Ytklfmgkfcacfkaa
