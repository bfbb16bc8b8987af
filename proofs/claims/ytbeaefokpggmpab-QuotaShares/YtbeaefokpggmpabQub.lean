import Derived.Test.YtbeaefokpggmpabQua
/-! quota: the document's Shares. -/
namespace Go.Proofs.Ytbeaefokpggmpab
open Go.RowKit
set_option linter.unusedVariables false

structure ShOk (total : Int) (l : List Int) : Prop where
  len : l.length ≤ 64
  t0 : 0 ≤ total
  t1 : total ≤ 1099511627776
  asks : AskOk l
/-- The greatest level that total suffices for. -/
structure IsLvl (total : Int) (l : List Int) (L : Int) : Prop where
  l0 : 0 ≤ L
  l1 : L ≤ 1099511627776
  le : capsum l L ≤ total
  top : L = 1099511627776 ∨ total < capsum l (L + 1)
theorem capsum_mono (l : List Int) {L M : Int} (h : L ≤ M) : capsum l L ≤ capsum l M := by
  induction l with
  | nil => exact Int.le_refl _
  | cons a l ih => rw [capsum_cons, capsum_cons]; omega
theorem IsLvl.unique {total : Int} {l : List Int} {L M : Int} (h : IsLvl total l L) (k : IsLvl total l M) : L = M := by
  by_cases h1 : L < M
  · exfalso
    rcases h.top with e | e
    · have := k.l1; omega
    · have := capsum_mono l (show L + 1 ≤ M by omega)
      have := k.le
      omega
  · by_cases h2 : M < L
    · exfalso
      rcases k.top with e | e
      · have := h.l1; omega
      · have := capsum_mono l (show M + 1 ≤ L by omega)
        have := h.le
        omega
    · omega
theorem capsum_zero {l : List Int} (h : AskOk l) : capsum l 0 = 0 := by
  induction l with
  | nil => rfl
  | cons a l ih =>
    rw [capsum_cons, ih (fun b hb => h b (List.mem_cons_of_mem _ hb))]
    have := h a (List.mem_cons_self ..)
    omega
/-- What each gets: the lesser one of its ask and the level, and one more for the first ones above it. -/
def sharesL (L : Int) : Int → List Int → List Int
  | _, [] => []
  | left, a :: k => if L < a ∧ 0 < left then (L + 1) :: sharesL L (left - 1) k else min a L :: sharesL L left k
theorem sharesL_up {L left a : Int} (k : List Int) (h : L < a ∧ 0 < left) : sharesL L left (a :: k) = (L + 1) :: sharesL L (left - 1) k := by
  conv => lhs; unfold sharesL
  rw [if_pos h]
theorem sharesL_down {L left a : Int} (k : List Int) (h : ¬ (L < a ∧ 0 < left)) : sharesL L left (a :: k) = min a L :: sharesL L left k := by
  conv => lhs; unfold sharesL
  rw [if_neg h]
theorem sharesL_len (L : Int) : ∀ (k : List Int) (left : Int), (sharesL L left k).length = k.length
  | [], _ => rfl
  | a :: k, left => by
    unfold sharesL
    split
    · simp [sharesL_len L k]
    · simp [sharesL_len L k]
theorem drop_cons (l : List Int) {k : Nat} (h : k < l.length) : l.drop k = l.getD k 0 :: l.drop (k + 1) := by
  rw [List.drop_eq_getElem_cons h]; simp [List.getD_eq_getElem?_getD, List.getElem?_eq_getElem h]

/-- What Shares answers. -/
def ShPost (total : Int) (l : List Int) (w : World) (e : Ending) (w' : World) : Prop :=
  (ShOk total l → ∃ (L : Int) (v : Value) (r : Option Nat), IsLvl total l L ∧ e = .returned (.tuple #[v, .int .i64 0]) ∧ OwnL w' v (sharesL L (total - capsum l L) l) r ∧ ∀ g, r = some g → w.heap.size ≤ g) ∧
  (¬ ShOk total l → e = .returned (.tuple #[.slice none 0 0, .int .i64 131])) ∧ Below w.heap.size w w'
theorem hresRshares : Try.f12.results = #[.tmp 4, .tmp 5] := by kernel_rfl
theorem ShPost.bad {total : Int} {l : List Int} {w w' : World} (h : ¬ ShOk total l) (hb : Below w.heap.size w w') : ShPost total l w (.returned (.tuple #[.slice none 0 0, .int .i64 131])) w' :=
  ⟨fun k => absurd k h, fun _ => rfl, hb⟩

set_option maxHeartbeats 4000000 in
set_option maxRecDepth 1000000 in
theorem rsharesOf (total : Int) (v : Value) (l : List Int) (w : World) (ht : I64 total) (h : NumsAt w v l) : Calls Try.prog 12 #[.int .i64 total, v] w (ShPost total l w) := by
  obtain ⟨a, cap, rfl, hm⟩ := h.shp
  have HN : Hid (NumsAt w (.slice a l.length cap) l) := h
  unfold maxLen at hm
  by_cases hlen : 64 < l.length
  · have HB : Hid (¬ ShOk total l) := fun k => by have := k.len; omega
    have hli : (64 : Int) < (l.length : Int) := by omega
    clear h
    go_enter Try.func12, Try.ntmps12
    go_wp2
    refine bodyPost_ret (v := .tuple #[.slice none 0 0, .int .i64 131]) ?_ rfl (ShPost.bad HB.out (Below.refl _ _))
    simp only [results, hresRshares]
    go_simp
  have hli : ¬ (64 : Int) < (l.length : Int) := by omega
  cases hr : inR total 0 1099511627776 with
  | false =>
    have HB : Hid (¬ ShOk total l) := fun k => inR_not hr ⟨k.t0, k.t1⟩
    clear h
    go_enter Try.func12, Try.ntmps12
    go_wp2_with fail
    refine (rwithinOf total 0 1099511627776 _).mono ?_
    rintro e w1 ⟨rfl, rfl⟩
    go_wp2
    refine bodyPost_ret (v := .tuple #[.slice none 0 0, .int .i64 131]) ?_ rfl (ShPost.bad HB.out (Below.refl _ _))
    simp only [results, hresRshares]
    go_simp
  | true =>
  have hto := inR_is hr
  clear h
  go_enter Try.func12, Try.ntmps12
  go_wp2_with fail
  refine (rwithinOf total 0 1099511627776 _).mono ?_
  rintro e w1 ⟨rfl, rfl⟩
  go_wp2
  go_loopw [6] (fun s6 wr => ∃ k : Nat, k ≤ l.length ∧ s6 = .int .i64 k ∧ Hid (AskOk (l.take k)) ∧ Hid (Below w1.heap.size w1 wr)) (fun i _ => l.length - (intOf i).toNat)
  case atStart => exact ⟨0, by omega, rfl, fun a ha => by simp at ha, Below.refl _ _⟩
  case round =>
    obtain ⟨k, hk, rfl, HO, HBF⟩ := hrel
    by_cases hA : k < l.length
    · obtain ⟨b, off, cap', e, hc⟩ := HN.out.get hA
      simp only [Value.slice.injEq] at e
      obtain ⟨rfl, -, rfl⟩ := e
      have c0 := hc _ HBF.out
      have hki : (k : Int) < (l.length : Int) := by omega
      cases hx : inR (l.getD k 0) 0 1099511627776 with
      | false =>
        have HB : Hid (¬ ShOk total l) := fun q => inR_not hx (q.asks _ (getD_mem hA))
        generalize l.getD k 0 = x at *
        clear hc
        go_wp2_with fail
        refine (rwithinOf x 0 1099511627776 _).mono ?_
        rintro e w2 ⟨rfl, rfl⟩
        go_wp2
        refine bodyPost_ret (v := .tuple #[.slice none 0 0, .int .i64 131]) ?_ rfl (ShPost.bad HB.out HBF.out)
        simp only [results, hresRshares]
        go_simp
      | true =>
        have HO2 : Hid (AskOk (l.take (k + 1))) := by
          unfold Hid
          rw [take_snocI l k hA]
          intro a ha
          rcases List.mem_append.mp ha with h1 | h1
          · exact HO.out a h1
          · rw [List.mem_singleton] at h1; subst h1; exact inR_is hx
        generalize l.getD k 0 = x at *
        clear hc
        go_wp2_with fail
        refine (rwithinOf x 0 1099511627776 _).mono ?_
        rintro e w2 ⟨rfl, rfl⟩
        go_wp2
        go_roundw
        case rel => exact ⟨k + 1, by omega, by go_num, HO2, HBF⟩
        case measure => simp [intOf]; omega
    · have hki : ¬ (k : Int) < (l.length : Int) := by omega
      have hke : k = l.length := by omega
      subst hke
      rw [List.take_length] at HO
      have HK : Hid (ShOk total l) := ⟨by omega, hto.1, hto.2, HO.out⟩
      have HO' : Hid (AskOk l) := HO.out
      have hl64 : l.length ≤ 64 := by omega
      go_wp2
      go_loopw [7, 8] (fun s7 s8 wq => ∃ lo hi : Int, s7 = .int .i64 lo ∧ s8 = .int .i64 hi ∧ 0 ≤ lo ∧ lo < hi ∧ hi ≤ 1099511627777 ∧ Hid (capsum l lo ≤ total) ∧ Hid (hi = 1099511627777 ∨ total < capsum l hi) ∧ Hid (Below w1.heap.size w1 wq)) (fun a b _ => (intOf b - intOf a).toNat)
      case atStart => exact ⟨0, 1099511627777, rfl, rfl, by omega, by omega, by omega, by unfold Hid; rw [capsum_zero HO'.out]; omega, .inl rfl, HBF⟩
      case round =>
        obtain ⟨lo, hi, rfl, rfl, h0, h1, h2, HLO, HHI, HB⟩ := hrel
        have hw1 : wrap64 (hi - lo) = hi - lo := by unfold wrap64; omega
        by_cases hgo : 1 < hi - lo
        · have hw2 : wrap64 (lo + hi) = lo + hi := by unfold wrap64; omega
          have hd : Int.tdiv (lo + hi) 2 = (lo + hi) / 2 := Int.tdiv_eq_ediv_of_nonneg (by omega)
          obtain ⟨mid, hmid⟩ : ∃ mid, (lo + hi) / 2 = mid := ⟨_, rfl⟩
          rw [hmid] at hd
          have hm0 : lo < mid ∧ mid < hi := by omega
          have hw3 : wrap64 mid = mid := by unfold wrap64; omega
          have HS : Hid (∀ u, Below w1.heap.size w1 u → Calls Try.prog 21 #[.slice a l.length cap, .int .i64 mid] u fun e w' => e = .returned (.int .i64 (capsum l mid)) ∧ Below u.heap.size u w') := fun u hu =>
            rsumOf _ l mid u (HN.out.later hu) HO'.out hl64 (by omega) (by omega)
          by_cases hle : capsum l mid ≤ total
          · have HL2 : Hid (capsum l mid ≤ total) := hle
            go_wp2_with fail
            refine (HS.out _ HB.out).mono ?_
            rintro e w5 ⟨rfl, hb5⟩
            have HB5 : Hid (Below w1.heap.size w1 w5) := HB.out.trans (hb5.mono HB.out.size)
            clear hb5
            go_wp2
            go_roundw
            case rel => exact ⟨mid, hi, rfl, rfl, by omega, by omega, h2, HL2, HHI, HB5⟩
            case measure => simp [intOf]; omega
          · have HL2 : Hid (hi = 1099511627777 ∨ total < capsum l mid) := .inr (by omega)
            have HL3 : Hid (mid = 1099511627777 ∨ total < capsum l mid) := .inr (by omega)
            go_wp2_with fail
            refine (HS.out _ HB.out).mono ?_
            rintro e w5 ⟨rfl, hb5⟩
            have HB5 : Hid (Below w1.heap.size w1 w5) := HB.out.trans (hb5.mono HB.out.size)
            clear hb5
            go_wp2
            go_roundw
            case rel => exact ⟨lo, mid, rfl, rfl, h0, by omega, by omega, HLO, HL3, HB5⟩
            case measure => simp [intOf]; omega
        · have hhi : hi = lo + 1 := by omega
          subst hhi
          have HLV : Hid (IsLvl total l lo) := ⟨h0, by omega, HLO.out, HHI.out.elim (fun e => .inl (by omega)) .inr⟩
          have hcs := capsum_small HO'.out h0 l.length (Nat.le_refl _)
          rw [List.take_length] at hcs
          have hcl := HLO.out
          have HS : Hid (∀ u, Below w1.heap.size w1 u → Calls Try.prog 21 #[.slice a l.length cap, .int .i64 lo] u fun e w' => e = .returned (.int .i64 (capsum l lo)) ∧ Below u.heap.size u w') := fun u hu =>
            rsumOf _ l lo u (HN.out.later hu) HO'.out hl64 (by omega) (by omega)
          obtain ⟨left, hleft⟩ : ∃ z, total - capsum l lo = z := ⟨_, rfl⟩
          have HLF : Hid (total - capsum l lo = left) := hleft
          have hw4 : wrap64 (total - capsum l lo) = left := by unfold wrap64; omega
          have hlb : 0 ≤ left ∧ left ≤ 1099511627776 := by omega
          go_wp2_with fail
          refine (HS.out _ HB.out).mono ?_
          rintro e w5 ⟨rfl, hb5⟩
          have HB5 : Hid (Below w1.heap.size w1 w5) := HB.out.trans (hb5.mono HB.out.size)
          clear hb5
          go_wp2
          generalize hM : wr = wz at *
          go_loopw [10, 11, 12] (fun s10 s11 s12 wq => ∃ (k : Nat) (lf : Int) (out : List Int) (b11 : Option Addr) (c11 : Nat) (r : Option Nat), k ≤ l.length ∧ s12 = .int .i64 k ∧ s10 = .int .i64 lf ∧ s11 = .slice b11 out.length c11 ∧ Hid (out.length = k) ∧ 0 ≤ lf ∧ lf ≤ 1099511627776 ∧ Hid (out ++ sharesL lo lf (l.drop k) = sharesL lo left l) ∧ Hid (OwnL wq s11 out r) ∧ Hid (∀ g, r = some g → w1.heap.size ≤ g) ∧ Hid (Below w1.heap.size w1 wq)) (fun _ _ i _ => l.length - (intOf i).toNat)
          case atStart => exact ⟨0, left, [], none, 0, none, by omega, rfl, by simp, rfl, (by unfold Hid; rfl), hlb.1, hlb.2, by unfold Hid; simp, OwnL.nil _, by intro g hg; simp at hg, HB5⟩
          case round =>
            obtain ⟨k, lf, out, b11, c11, r, hk, rfl, rfl, rfl, HOL, hlf0, hlf1, HEQ, HOW, HFR, HB6⟩ := hrel
            by_cases hA : k < l.length
            · obtain ⟨b, off, cap', e, hc⟩ := HN.out.get hA
              simp only [Value.slice.injEq] at e
              obtain ⟨rfl, -, rfl⟩ := e
              have c0 := hc wr HB6.out
              have hxo := HO'.out _ (getD_mem hA)
              have hki : (k : Int) < (l.length : Int) := by omega
              have HDR : Hid (l.drop k = l.getD k 0 :: l.drop (k + 1)) := drop_cons l hA
              generalize l.getD k 0 = x at *
              clear hc
              have HLN : Hid (out.length + 1 ≤ 20000000000000) := by have := HOL.out; unfold Hid; omega
              by_cases hup : lo < x ∧ 0 < lf
              · obtain ⟨hu1, hu2⟩ := hup
                have HE2 : Hid (out ++ [lo + 1] ++ sharesL lo (lf - 1) (l.drop (k + 1)) = sharesL lo left l) := by
                  have := HEQ.out
                  rw [HDR.out, sharesL_up _ ⟨hu1, hu2⟩] at this
                  unfold Hid
                  rw [← this]; simp
                have HM : Hid ((if lo < x then lo else x) = lo) := by unfold Hid; rw [if_pos hu1]
                have hw5 : wrap64 (lo + 1) = lo + 1 := by unfold wrap64; omega
                have hw6 : wrap64 (lf - 1) = lf - 1 := by unfold wrap64; omega
                have HI : Hid (I64 (lo + 1)) := by unfold Hid I64; omega
                go_wp2_with (first | refine wpList_mnN (by with_reducible rfl) _ _ 2 2 _ _ _ (by with_reducible rfl) (by rfl) (by rfl) HM.out ?_ | (at_builtin; refine wpList_append_l _ rfl _ _ 22 22 rfl Try.underlying22 _ _ out [lo + 1] r rfl rfl ?hOwn ?hByte ?hSrc ?hLen ?_) | fail)
                case hOwn => exact HOW.out.later ((Below.refl _ _).alloc (Nat.le_refl _) _)
                case hByte => first | exact HI.out | (intro c hc; rw [List.mem_singleton] at hc; subst hc; exact HI.out) | (simp only [List.mem_singleton, forall_eq]; exact HI.out)
                case hSrc => exact src_l wr (lo + 1)
                case hLen => simpa using HLN.out
                intro v7 w7 r7 ho7 hg7 hr7 hn7
                obtain ⟨a7, c7, rfl⟩ := ho7.shp
                have HO7 : Hid (OwnL w7 (.slice a7 (out ++ [lo + 1]).length c7) (out ++ [lo + 1]) r7) := ho7
                have HF7 : Hid (∀ g, r7 = some g → w1.heap.size ≤ g) := fun g hg => by
                  have hs := HB6.out.size
                  rcases hr7 with rfl | rfl
                  · exact HFR.out g hg
                  · simp at hg; omega
                have HB7 : Hid (Below w1.heap.size w1 w7) := (HB6.out.alloc HB6.out.size _).grown hg7 (by have := HB6.out.size; simp; omega) (fun q hq => HFR.out q hq)
                clear ho7 hg7 hr7 hn7
                go_wp2
                go_roundw
                case rel => exact ⟨k + 1, lf - 1, out ++ [lo + 1], a7, c7, r7, by omega, by go_num, rfl, by simp, (by have := HOL.out; unfold Hid; simp; omega), by omega, by omega, HE2, by simpa using HO7, HF7, HB7⟩
                case measure => simp [intOf]; omega
              by_cases hup2 : lo < x
              · have hlf : ¬ 0 < lf := by omega
                have HE2 : Hid (out ++ [lo] ++ sharesL lo lf (l.drop (k + 1)) = sharesL lo left l) := by
                  have := HEQ.out
                  rw [HDR.out, sharesL_down _ (by omega), show min x lo = lo by omega] at this
                  unfold Hid
                  rw [← this]; simp
                have HM : Hid ((if lo < x then lo else x) = lo) := by unfold Hid; rw [if_pos hup2]
                have HI : Hid (I64 lo) := by unfold Hid I64; omega
                go_wp2_with (first | refine wpList_mnN (by with_reducible rfl) _ _ 2 2 _ _ _ (by with_reducible rfl) (by rfl) (by rfl) HM.out ?_ | (at_builtin; refine wpList_append_l _ rfl _ _ 22 22 rfl Try.underlying22 _ _ out [lo] r rfl rfl ?hOwn ?hByte ?hSrc ?hLen ?_) | fail)
                case hOwn => exact HOW.out.later ((Below.refl _ _).alloc (Nat.le_refl _) _)
                case hByte => first | exact HI.out | (intro c hc; rw [List.mem_singleton] at hc; subst hc; exact HI.out) | (simp only [List.mem_singleton, forall_eq]; exact HI.out)
                case hSrc => exact src_l wr lo
                case hLen => simpa using HLN.out
                intro v7 w7 r7 ho7 hg7 hr7 hn7
                obtain ⟨a7, c7, rfl⟩ := ho7.shp
                have HO7 : Hid (OwnL w7 (.slice a7 (out ++ [lo]).length c7) (out ++ [lo]) r7) := ho7
                have HF7 : Hid (∀ g, r7 = some g → w1.heap.size ≤ g) := fun g hg => by
                  have hs := HB6.out.size
                  rcases hr7 with rfl | rfl
                  · exact HFR.out g hg
                  · simp at hg; omega
                have HB7 : Hid (Below w1.heap.size w1 w7) := (HB6.out.alloc HB6.out.size _).grown hg7 (by have := HB6.out.size; simp; omega) (fun q hq => HFR.out q hq)
                clear ho7 hg7 hr7 hn7
                go_wp2
                go_roundw
                case rel => exact ⟨k + 1, lf, out ++ [lo], a7, c7, r7, by omega, by go_num, rfl, by simp, (by have := HOL.out; unfold Hid; simp; omega), by omega, by omega, HE2, by simpa using HO7, HF7, HB7⟩
                case measure => simp [intOf]; omega
              · skip
                have HE2 : Hid (out ++ [x] ++ sharesL lo lf (l.drop (k + 1)) = sharesL lo left l) := by
                  have := HEQ.out
                  rw [HDR.out, sharesL_down _ (by omega), show min x lo = x by omega] at this
                  unfold Hid
                  rw [← this]; simp
                have HM : Hid ((if lo < x then lo else x) = x) := by unfold Hid; rw [if_neg hup2]
                have HI : Hid (I64 x) := by unfold Hid I64; omega
                go_wp2_with (first | refine wpList_mnN (by with_reducible rfl) _ _ 2 2 _ _ _ (by with_reducible rfl) (by rfl) (by rfl) HM.out ?_ | (at_builtin; refine wpList_append_l _ rfl _ _ 22 22 rfl Try.underlying22 _ _ out [x] r rfl rfl ?hOwn ?hByte ?hSrc ?hLen ?_) | fail)
                case hOwn => exact HOW.out.later ((Below.refl _ _).alloc (Nat.le_refl _) _)
                case hByte => first | exact HI.out | (intro c hc; rw [List.mem_singleton] at hc; subst hc; exact HI.out) | (simp only [List.mem_singleton, forall_eq]; exact HI.out)
                case hSrc => exact src_l wr x
                case hLen => simpa using HLN.out
                intro v7 w7 r7 ho7 hg7 hr7 hn7
                obtain ⟨a7, c7, rfl⟩ := ho7.shp
                have HO7 : Hid (OwnL w7 (.slice a7 (out ++ [x]).length c7) (out ++ [x]) r7) := ho7
                have HF7 : Hid (∀ g, r7 = some g → w1.heap.size ≤ g) := fun g hg => by
                  have hs := HB6.out.size
                  rcases hr7 with rfl | rfl
                  · exact HFR.out g hg
                  · simp at hg; omega
                have HB7 : Hid (Below w1.heap.size w1 w7) := (HB6.out.alloc HB6.out.size _).grown hg7 (by have := HB6.out.size; simp; omega) (fun q hq => HFR.out q hq)
                clear ho7 hg7 hr7 hn7
                go_wp2
                go_roundw
                case rel => exact ⟨k + 1, lf, out ++ [x], a7, c7, r7, by omega, by go_num, rfl, by simp, (by have := HOL.out; unfold Hid; simp; omega), by omega, by omega, HE2, by simpa using HO7, HF7, HB7⟩
                case measure => simp [intOf]; omega
            · have hki : ¬ (k : Int) < (l.length : Int) := by omega
              have hke : k = l.length := by omega
              subst hke
              have HFI : Hid (ShPost total l w1 (.returned (.tuple #[.slice b11 out.length c11, .int .i64 0])) wr) := by
                have he := HEQ.out
                rw [List.drop_length] at he
                have he' : out = sharesL lo left l := by rw [← he]; simp [sharesL]
                refine ⟨fun _ => ⟨lo, _, r, HLV.out, rfl, ?_, HFR.out⟩, fun h => absurd HK.out h, HB6.out⟩
                rw [HLF.out, ← he']
                exact HOW.out
              go_wp2
              refine bodyPost_ret (v := .tuple #[.slice b11 out.length c11, .int .i64 0]) ?_ rfl HFI.out
              simp only [results, hresRshares]
              go_simp
end Go.Proofs.Ytbeaefokpggmpab
