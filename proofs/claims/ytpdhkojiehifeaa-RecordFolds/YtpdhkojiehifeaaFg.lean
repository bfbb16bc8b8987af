import Derived.Test.YtpdhkojiehifeaaFr
import Derived.Test.YtpdhkojiehifeaaCp
/-! The program's Fold, over a sort. -/
namespace Go.Proofs.Ytpdhkojiehifeaa
open Go.RowKit Plain Go.WideMaps Go.Maps
set_option linter.unusedVariables false

abbrev fnCmp : Value := .func (.func 20) #[] #[]
/-- What the sort does. -/
def SortOk : Prop := ∀ (v : Value) (ts : List Rc) (r : Option Nat) (w : World), OwnR w v ts r → (∀ x ∈ ts, x.Ok) → ts.length ≤ 2199023255552 →
  Calls Try.prog 19 #[v, fnCmp] w fun e w' => e = .returned (.tuple #[]) ∧ ∃ L, L.Perm ts ∧ L.Pairwise leK ∧ OwnR w' v L r ∧ w.grownBy w' r

set_option maxHeartbeats 2000000 in
theorem foldAny (hs : SortOk) (v : Value) (st : List Rc) (w : World) (h : RecsAt w v st) : Calls Try.prog 12 #[v] w (FoldPost w st) := by
  have HSO : Hid SortOk := hs
  have HR : Hid (RecsAt w v st) := h
  obtain ⟨a, cap, rfl, hcl, hok, hcells⟩ := h
  have HC : Hid (st ≠ [] → ∃ b off, a = some ⟨b, off, none⟩ ∧ ∀ j, j < st.length → CellsAt w b (off + j * 7) (st.getD j Rc.none)) := hcells
  have HOK : Hid (∀ x ∈ st, x.Ok) := hok
  clear hcells hok hs
  go_enter Try.func12, Try.ntmps12
  go_wp2_with fail
  refine (lastOfKeys (H := Unit) _ st w HR.out).mono ?_
  rintro e w2 ⟨rfl, ⟨D, hD, hLD⟩, hb2⟩
  have HD : Hid (w2.ownsMap Try.prog 9 (plainElem Try.prog 3) w.heap.size st.length D) := hD
  have HL : Hid (LastD st st.length D) := hLD
  have HB2 : Hid (Below w.heap.size w w2) := hb2
  clear hD hLD hb2
  go_wp2
  go_loopw [4, 11] (fun s4 s11 wr => ∃ (k : Nat) (q : Option Nat) (a9 : Option Addr) (n9 c9 : Nat), k ≤ st.length ∧ s11 = .int .i64 k ∧ s4 = .slice a9 n9 c9 ∧ OwnR wr (.slice a9 n9 c9) (lv st k) q ∧ (∀ g, q = some g → w2.heap.size ≤ g) ∧ Below w2.heap.size w2 wr) (fun _ i _ => st.length - (intOf i).toNat)
  case atStart => exact ⟨0, none, none, 0, 0, by omega, rfl, rfl, OwnR.nil _, by simp, Below.refl _ _⟩
  case round =>
    obtain ⟨k, q, a9, n9, c9, hk, rfl, rfl, hown, hq, hbl⟩ := hrel
    have HO : Hid (OwnR wr (.slice a9 n9 c9) (lv st k) q) := hown
    have HQ : Hid (∀ g, q = some g → w2.heap.size ≤ g) := hq
    have HBL : Hid (Below w2.heap.size w2 wr) := hbl
    have HBW : Hid (Below w.heap.size w wr) := below_on HB2.out hbl
    have HMP : Hid (wr.ownsMap Try.prog 9 (plainElem Try.prog 3) w.heap.size st.length D) := ownsMap_later HD.out hbl
    have HLEN : Hid ((lv st k).length ≤ k) := lv_len st k
    clear hown hq hbl
    by_cases hlt : k < st.length
    · have hne : st ≠ [] := by rintro rfl; simp at hlt
      obtain ⟨b, off, rfl, hc⟩ := HC.out hne
      have hck := hc k hlt
      have hck' := hck.block (HBW.out.block b hck.lt)
      have hmem : st.getD k Rc.none ∈ st := by rw [List.getD_eq_getElem?_getD, List.getElem?_eq_getElem hlt]; exact List.getElem_mem _
      have hkey : keyOf Try.prog 9 (.string (rk st k)) = some (klit (rk st k)) := keyOf_string_mk Try.underlying9 (HOK.out _ hmem).key
      have HFD : Hid (∀ c : Int, D.atKey (klit (rk st k)) (.lit (.int .i64 0)) = .lit (.int .i64 c) → (c == (k : Int)) = lastB st k) := fun c hc => HL.out.found hlt hc
      have HS0 : Hid (liveB st k = false → lv st (k + 1) = lv st k) := fun h => lv_no h
      have HS1 : Hid (liveB st k = true → lv st (k + 1) = lv st k ++ [st.getD k Rc.none]) := fun h => lv_yes h
      have HLB : Hid (liveB st k = (lastB st k && ((st.getD k Rc.none).k == 1))) := rfl
      unfold rk at hkey HFD
      generalize st.getD k Rc.none = x at hck' hkey HFD HS1 HLB
      obtain ⟨xk, xo, xt, xp, xq, xkey, xval⟩ := x
      obtain ⟨c0, c1, c2, c3, c4, c5, c6⟩ := hck'
      simp only at c0 c1 c2 c3 c4 c5 c6 hkey HFD HLB
      clear hck hc hne hmem
      have HBA : Hid (Below w2.heap.size w2 (wr.alloc (.cells #[.int .i64 xk, .int .i64 xo, .int .i64 xt, .int .i64 xp, .int .i64 xq, .string xkey, .string xval] 32))) := HBL.out.alloc HBL.out.size _
      cases hlb : lastB st k with
      | false =>
        have HN1 : Hid (lv st (k + 1) = lv st k) := HS0.out (by rw [HLB.out, hlb]; rfl)
        clear HS0 HS1 HLB
        go_wp2_with (at_lookup; refine wpList_lookup_own_int _ rfl _ _ 33 rfl 9 3 .i64 klaw Try.underlying33 Try.underlying3 (kzero _) w.heap.size st.length _ rfl (HMP.out.alloc _) _ _ rfl hkey ?_)
        intro c hat hwc
        have hcne : (c == (k : Int)) = false := by have := HFD.out c hat; rw [hlb] at this; exact this
        clear hat hwc
        go_wp2
        go_roundw
        case rel => exact ⟨k + 1, q, a9, n9, c9, by omega, by go_num, rfl, by rw [HN1.out]; exact HO.out.later ((Below.refl _ _).alloc (Nat.le_refl _) _), HQ.out, HBA.out⟩
        case measure => simp [intOf]; omega
      | true =>
        by_cases hk1 : xk = 1
        · subst hk1
          have HN1 : Hid (lv st (k + 1) = lv st k ++ [⟨1, xo, xt, xp, xq, xkey, xval⟩]) := HS1.out (by rw [HLB.out, hlb]; rfl)
          clear HS0 HS1 HLB
          go_wp2_with (at_lookup; refine wpList_lookup_own_int _ rfl _ _ 33 rfl 9 3 .i64 klaw Try.underlying33 Try.underlying3 (kzero _) w.heap.size st.length _ rfl (HMP.out.alloc _) _ _ rfl hkey ?_)
          intro c hat hwc
          obtain rfl : c = (k : Int) := by have := HFD.out c hat; rw [hlb] at this; simpa using this
          clear hat hwc
          go_wp2_with (at_builtin; refine wpList_append_recs _ rfl _ _ rfl _ _ (lv st k) [⟨1, xo, xt, xp, xq, xkey, xval⟩] q rfl rfl ?hOwn ?hSrc ?hLen ?hR ?_)
          case hOwn => exact HO.out.later (((Below.refl _ _).alloc (Nat.le_refl _) _).alloc (by simp) _)
          case hSrc =>
            have := src_rec (wr.alloc (.cells #[.int .i64 1, .int .i64 xo, .int .i64 xt, .int .i64 xp, .int .i64 xq, .string xkey, .string xval] 32)) ⟨1, xo, xt, xp, xq, xkey, xval⟩
            rw [show (wr.alloc (.cells #[.int .i64 1, .int .i64 xo, .int .i64 xt, .int .i64 xp, .int .i64 xq, .string xkey, .string xval] 32)).heap.size = wr.heap.size + 1 by simp] at this
            exact this
          case hLen => have := HLEN.out; simp; omega
          case hR => exact .inr (by simp)
          intro v' w3 g3 ho3 hg3 hr3
          obtain ⟨a3, c3', rfl, -, -⟩ := ho3.shape
          have HO3 : Hid (OwnR w3 (.slice a3 (lv st k ++ [(⟨1, xo, xt, xp, xq, xkey, xval⟩ : Rc)]).length c3') (lv st (k + 1)) (some g3)) := by unfold Hid; rw [HN1.out]; exact ho3
          have HQ3 : Hid (w2.heap.size ≤ g3) := by
            have h1 := HBL.out.size
            unfold Hid
            rcases hr3 with e | rfl
            · exact HQ.out g3 e.symm
            · simp; omega
          have HB3 : Hid (Below w2.heap.size w2 w3) := (HBA.out.alloc HBA.out.size _).trans (grow_below hg3 (by have := HBL.out.size; simp; omega) HQ.out)
          generalize (lv st k ++ [(⟨1, xo, xt, xp, xq, xkey, xval⟩ : Rc)]).length = n3 at HO3 ⊢
          clear ho3 hg3 hr3
          go_wp2
          go_roundw
          case rel => exact ⟨k + 1, some g3, a3, n3, c3', by omega, by go_num, rfl, HO3.out, fun g hg => by simp at hg; have := HQ3.out; omega, HB3.out⟩
          case measure => simp [intOf]; omega
        · have hk1' : (xk == 1) = false := by simpa using hk1
          have HN1 : Hid (lv st (k + 1) = lv st k) := HS0.out (by rw [HLB.out, hlb, hk1']; rfl)
          clear HS0 HS1 HLB hk1
          go_wp2_with (at_lookup; refine wpList_lookup_own_int _ rfl _ _ 33 rfl 9 3 .i64 klaw Try.underlying33 Try.underlying3 (kzero _) w.heap.size st.length _ rfl (HMP.out.alloc _) _ _ rfl hkey ?_)
          intro c hat hwc
          obtain rfl : c = (k : Int) := by have := HFD.out c hat; rw [hlb] at this; simpa using this
          clear hat hwc
          go_wp2
          go_roundw
          case rel => exact ⟨k + 1, q, a9, n9, c9, by omega, by go_num, rfl, by rw [HN1.out]; exact HO.out.later ((Below.refl _ _).alloc (Nat.le_refl _) _), HQ.out, HBA.out⟩
          case measure => simp [intOf]; omega
    · obtain rfl : k = st.length := by omega
      have HLO : Hid (∀ x ∈ lv st st.length, x.Ok) := fun x hx => HOK.out x (lv_in st _ (Nat.le_refl _) x hx)
      have hll : (lv st st.length).length ≤ 2199023255552 := by have := HLEN.out; omega
      clear HC
      go_wp2_with fail
      refine (HSO.out _ _ q wr HO.out HLO.out hll).mono ?_
      rintro e w5 ⟨rfl, L, hp, hsr, ho5, hg5⟩
      have HF : Hid (Folded st L) := ⟨hp, hsr⟩
      have HO5 : Hid (OwnR w5 (.slice a9 n9 c9) L q) := ho5
      have HB5 : Hid (Below w.heap.size w w5) := HBW.out.trans (grow_below hg5 HBW.out.size (fun g hg => by have := HQ.out g hg; have := HB2.out.size; omega))
      clear hp hsr ho5 hg5
      go_wp2
      go_ret
      exact ⟨_, q, L, rfl, HF.out, HO5.out, fun g hg => by have := HQ.out g hg; have := HB2.out.size; omega, HB5.out⟩
end Go.Proofs.Ytpdhkojiehifeaa
