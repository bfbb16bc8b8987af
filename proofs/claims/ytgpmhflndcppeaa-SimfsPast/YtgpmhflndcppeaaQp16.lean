import Derived.Test.YtgpmhflndcppeaaQp15
import Derived.Sort.Walk0
/-! The law on the past: fits. -/
namespace Go.Proofs.Ytgpmhflndcppeaa
open Go.RowKit Go.Maps Plain
set_option linter.unusedVariables false
set_option linter.unusedSimpArgs false

theorem ImgAt.file {w : World} {v : Value} {im : List (Nm × List Nat)} {base : Nat} (h : ImgAt w v im base) {j : Nat} (hj : j < im.length) :
    ∃ g c a c', v = .slice (some ⟨g, 0, none⟩) im.length c ∧ w.cell? ⟨g, j * 2, none⟩ = some (.string (str (im.getD j ([], [])).1)) ∧ w.cell? ⟨g, j * 2 + 1, none⟩ = some (.slice a (im.getD j ([], [])).2.length c') ∧ BytesAt w (.slice a (im.getD j ([], [])).2.length c') (im.getD j ([], [])).2 := by
  obtain ⟨ts, r, blk, hm⟩ := h
  have hp : im[j]? = some (im.getD j ([], [])) := by rw [List.getD_eq_getElem?_getD, List.getElem?_eq_getElem hj]; rfl
  obtain ⟨dv, e1, e2⟩ := hm.one j _ hp
  obtain ⟨a, cap, e, _⟩ := e2.bytes
  subst e
  have hjt : j < ts.length := by rw [hm.len]; exact hj
  have hrow := hm.row
  obtain ⟨g, c, e5, e6⟩ : ∃ g c, v = .slice (some ⟨g, 0, none⟩) ts.length c ∧ r = some g := by
    rcases hrow with ⟨_, e, _⟩ | ⟨g, c, e1, e2, _⟩
    · rw [e] at hjt; simp at hjt
    · exact ⟨g, c, e2, e1⟩
  rw [e6] at hrow
  have hc := hrow.at (j := j) hjt
  have e7 : ts.getD j Fi.none = ⟨str (im.getD j ([], [])).1, .slice a (im.getD j ([], [])).2.length cap⟩ := by rw [List.getD_eq_getElem?_getD, e1]; rfl
  rw [e7] at hc
  exact ⟨g, c, a, cap, by rw [e5, hm.len], hc.1, hc.2, e2.bytes⟩
theorem lastF_take {l : List (Nm × Nat)} {s : Nm} {k : Nat} (h : k < l.length) : lastF (l.take (k + 1)) s = if (l.getD k ([], 0)).1 = s then some (l.getD k ([], 0)).2 else lastF (l.take k) s := by
  have e : l.getD k ([], 0) = l[k] := by rw [List.getD_eq_getElem?_getD, List.getElem?_eq_getElem h]; rfl
  rw [List.take_succ_eq_append_getElem h, lastF_snoc, e]
theorem PaM.drewN {w : World} {gp : Nat} {p : Ps} {B : Nat → Prop} {vF vG vD : Value} {rF rG rD : Option Nat} {fv gv dv : List Value} {rf rg : Nat → Option Nat} {sv tv : Nat → List Value} (h : PaM w gp p B vF vG vD rF rG rD fv gv dv rf rg sv tv) (n : Nat) : PaM (w.drewN n) gp p B vF vG vD rF rG rD fv gv dv rf rg sv tv := h.kept (Nat.le_refl _) (fun _ _ => rfl)
theorem fits_stop {p : Ps} {l : List (Nm × Nat)} {im : List (Nm × List Nat)} (he : l.length = im.length) {i : Nat} (h : ∀ j, j < i → fitAt p l im j = true) : (i < im.length → fitAt p l im i = false → fitsB p l im = false) ∧ (im.length ≤ i → fitsB p l im = true) := by
  unfold fitsB
  have hd : decide (l.length = im.length) = true := decide_eq_true he
  rw [hd, Bool.true_and]
  refine ⟨fun h1 h2 => ?_, fun h1 => ?_⟩
  · rw [List.all_eq_false]
    exact ⟨i, List.mem_range.mpr h1, by rw [h2]; simp⟩
  · rw [List.all_eq_true]
    exact fun j hj => h j (by have := List.mem_range.mp hj; omega)
theorem lastF_mem {s : Nm} {f : Nat} : ∀ (l : List (Nm × Nat)) (o : Option Nat), l.foldl (fun f x => if x.1 = s then some x.2 else f) o = some f → o = some f ∨ (s, f) ∈ l
  | [], o, h => .inl h
  | x :: xs, o, h => by
    rw [List.foldl_cons] at h
    rcases lastF_mem xs _ h with e | e
    · by_cases hx : x.1 = s
      · rw [if_pos hx] at e
        injection e with e2
        exact .inr (by rw [← e2, ← hx]; simp)
      · rw [if_neg hx] at e; exact .inl e
    · exact .inr (by simp [e])
theorem quiet_pq {P : Program} {f : FuncId} {args : Array Value} {w : World} {n x : Nat} {v : Value}
    (h : Calls P f args (w.drewN (n + x)) fun e w' => e = .returned v ∧ ∃ m, w' = (w.drewN (n + x)).drewN m) : Calls P f args (w.drewN (n + x)) fun e w'' => e = .returned v ∧ ∃ m, w'' = w.drewN (n + m) :=
  h.mono fun _ _ ⟨he, m, hm⟩ => ⟨he, x + m, by rw [hm, World.drewN_drewN, Nat.add_assoc]⟩
theorem quiet_pp {P : Program} {f : FuncId} {args : Array Value} {w : World} {n x : Nat} {v : Value}
    (h : Calls P f args (w.drewN (n + x)) fun e w' => e = .returned v ∧ ∃ m, w' = (w.drewN (n + x)).drewN m) : Calls P f args (w.drewN (n + x)) fun e w'' => e = .returned v ∧ ∃ q, w'' = (w.drewN n).drewN q :=
  h.mono fun _ _ ⟨he, m, hm⟩ => ⟨he, x + m, by rw [hm, World.drewN_drewN, World.drewN_drewN, Nat.add_assoc]⟩
def numF (o : Option Nat) : Int := o.elim (-1) fun f => (f : Int)
set_option maxHeartbeats 8000000 in
set_option maxRecDepth 100000 in
theorem fitsOf {w : World} {gp : Nat} {p : Ps} {B : Nat → Prop} {vF vG vD : Value} {rF rG rD : Option Nat} {fv gv dv : List Value} {rf rg : Nat → Option Nat} {sv tv : Nat → List Value} (h : PaM w gp p B vF vG vD rF rG rD fv gv dv rf rg sv tv)
    (hfl : p.files.length ≤ 4398046511103) (al : Option Addr) (cl : Nat) (l : List (Nm × Nat)) (rl : Option Nat) (hl : OwnNw w (.slice al l.length cl) (l.map nwOf) rl) (hll : l.length ≤ 2199023255000)
    (hx : ∀ x ∈ l, x.2 < p.files.length ∧ x.2 < p.grown.length ∧ (p.grown.getD x.2 []).length = (p.files.getD x.2 []).length ∧ (p.files.getD x.2 []).length ≤ 4398046511103)
    (ai : Option Addr) (ci : Nat) (im : List (Nm × List Nat)) (base : Nat) (hi : ImgAt w (.slice ai im.length ci) im base) (hil : im.length ≤ 2199023255552) :
    Calls Try.prog 16 #[.pointer (some ⟨gp, 0, none⟩), .slice al l.length cl, .slice ai im.length ci] w fun e w' => e = .returned (.bool (fitsB p l im)) ∧ ∃ n, w' = w.drewN n := by
  by_cases hlen : l.length = im.length
  · have HW : Hid (∀ f a c b, (∃ s, (s, f) ∈ l) → BytesAt w (.slice a b.length c) b → ∀ n, Calls Try.prog 40 #[.pointer (some ⟨gp, 0, none⟩), .int .i64 (f : Nat), .slice a b.length c] (w.drewN n) fun e w' => e = .returned (.bool (wasB (p.files.getD f []) (p.grown.getD f []) b)) ∧ ∃ m, w' = (w.drewN n).drewN m) := fun f a c b ⟨s, hs⟩ hb n => by
      obtain ⟨q1, q2, q3, q4⟩ := hx (s, f) hs
      exact wasOf (h.drewN n) f q1 q2 q3 hfl q4 a c b (hb.drewN n)
    have HLR : Hid (OwnNw w (.slice al l.length cl) (l.map nwOf) rl) := hl
    have HIM : Hid (ImgAt w (.slice ai im.length ci) im base) := hi
    clear h hl hi hx
    have hbl : ((l.length : Int) == (im.length : Int)) = true := by simp [hlen]
    have hbl2 : ((l.length : Int) != (im.length : Int)) = false := by simp [hlen]
    have HLN : Hid (l.length = im.length) := hlen
    clear hlen
    go_enter Try.func16, Try.ntmps16
    go_wp2
    go_loopw [7] (fun i wr => ∃ k : Nat, k ≤ im.length ∧ i = .int .i64 k ∧ Hid (∃ n, wr = w.drewN n) ∧ Hid (∀ j, j < k → fitAt p l im j = true)) (fun i _ => im.length - (intOf i).toNat)
    case atStart => exact ⟨0, by omega, rfl, ⟨0, rfl⟩, fun j hj => by omega⟩
    case round =>
      obtain ⟨i, hii, rfl, HD, HB⟩ := hrel
      obtain ⟨n, hn⟩ := HD.out
      subst hn
      clear HD
      by_cases hlt : i < im.length
      · have hki : (i : Int) < (im.length : Int) := by omega
        obtain ⟨gI, cI, aI, cI', e1, d0, d1, hby⟩ := HIM.out.file hlt
        injection e1 with e2 e3 e4
        subst e2 e4
        clear e3
        obtain ⟨nm, hnm⟩ : ∃ nm, (im.getD i ([], [])).1 = nm := ⟨_, rfl⟩
        obtain ⟨dt, hdt⟩ : ∃ dt, (im.getD i ([], [])).2 = dt := ⟨_, rfl⟩
        rw [hnm] at d0
        rw [hdt] at d1 hby
        have HNM : Hid ((im.getD i ([], [])).1 = nm ∧ (im.getD i ([], [])).2 = dt) := ⟨hnm, hdt⟩
        have HBY : Hid (BytesAt w (.slice aI dt.length cI') dt) := hby
        clear hnm hdt hby
        go_wp2
        go_loopw [8, 9] (fun f k wr => ∃ m n : Nat, m ≤ l.length ∧ k = .int .i64 m ∧ f = .int .i64 (numF (lastF (l.take m) nm)) ∧ wr = w.drewN n) (fun _ k _ => l.length - (intOf k).toNat)
        case atStart => exact ⟨0, n, by omega, rfl, rfl, rfl⟩
        case round =>
          obtain ⟨m, n2, hm, rfl, rfl, rfl⟩ := hrel
          by_cases hmt : m < l.length
          · have hmi : (m : Int) < (l.length : Int) := by omega
            obtain ⟨gL, rfl, -, x0, x1⟩ := row_nw HLR.out hmt
            have HT : Hid (lastF (l.take (m + 1)) nm = if (l.getD m ([], 0)).1 = nm then some (l.getD m ([], 0)).2 else lastF (l.take m) nm) := lastF_take hmt
            by_cases he : (l.getD m ([], 0)).1 = nm
            · have hbe : ((str (l.getD m ([], 0)).1).toList == (str nm).toList) = true := by rw [txt_eq, str_list]; simpa using he
              have HT2 : Hid (numF (lastF (l.take (m + 1)) nm) = ((l.getD m ([], 0)).2 : Int)) := by unfold Hid; rw [HT.out, if_pos he]; rfl
              clear HT he
              generalize l.getD m ([], 0) = x at x0 x1 hbe HT2
              go_wp2
              go_quiet (fail)
              go_wp2
              go_roundw
              case rel => exact ⟨m + 1, _, by omega, by go_num, by rw [HT2.out], rfl⟩
              case measure => simp [intOf]; omega
            · have hbe : ((str (l.getD m ([], 0)).1).toList == (str nm).toList) = false := by rw [txt_eq, str_list]; simpa using he
              have HT2 : Hid (lastF (l.take (m + 1)) nm = lastF (l.take m) nm) := by unfold Hid; rw [HT.out, if_neg he]
              clear HT he
              generalize l.getD m ([], 0) = x at x0 x1 hbe
              go_wp2
              go_quiet (fail)
              go_wp2
              go_roundw
              case rel => exact ⟨m + 1, _, by omega, by go_num, by rw [HT2.out], rfl⟩
              case measure => simp [intOf]; omega
          · have hme : m = l.length := by omega
            subst hme
            rw [List.take_length]
            cases hlf : lastF l nm with
            | none =>
              have HF : Hid (fitsB p l im = false) := (fits_stop HLN.out HB.out).1 hlt (by unfold fitAt; rw [HNM.out.1, hlf]; rfl)
              have hnum : numF none = -1 := rfl
              rw [hnum]
              clear hlf HB
              go_wp2
              go_quiet (fail)
              go_wp2
              go_ret
              exact ⟨by rw [HF.out]; try rfl, n2 + nq, by first | rfl | rw [World.drewN_drewN]⟩
            | some f =>
              have hfm : ∃ s, (s, f) ∈ l := ⟨nm, (lastF_mem l none hlf).elim (fun e => by cases e) id⟩
              have hnum : numF (some f) = (f : Int) := rfl
              rw [hnum]
              have HFA : Hid (fitAt p l im i = (wasB (p.files.getD f []) (p.grown.getD f []) dt && !(decide (0 < i) && decide (nm ≤ (im.getD (i - 1) ([], [])).1)))) := by unfold Hid fitAt; rw [HNM.out.1, hlf, HNM.out.2]; rfl
              have HWA : Hid (∀ n, Calls Try.prog 40 #[.pointer (some ⟨gp, 0, none⟩), .int .i64 (f : Nat), .slice aI dt.length cI'] (w.drewN n) fun e w' => e = .returned (.bool (wasB (p.files.getD f []) (p.grown.getD f []) dt)) ∧ ∃ m, w' = (w.drewN n).drewN m) := HW.out f aI cI' dt hfm HBY.out
              have hf0 : ¬ (f : Int) < 0 := by omega
              have hf1 : decide ((f : Int) < 0) = false := decide_eq_false hf0
              have HST : Hid ((fitAt p l im i = false → fitsB p l im = false) ∧ (fitAt p l im i = true → ∀ j, j < i + 1 → fitAt p l im j = true)) := ⟨fun h => (fits_stop HLN.out HB.out).1 hlt h, fun h j hj => by
                by_cases e : j = i
                · subst e; exact h
                · exact HB.out j (by omega)⟩
              clear hlf HB hfm HNM
              generalize wasB (p.files.getD f []) (p.grown.getD f []) dt = wb at HFA HWA
              cases wb with
              | false =>
                have HF : Hid (fitsB p l im = false) := HST.out.1 (by rw [HFA.out]; rfl)
                clear HST HFA
                go_wp2
                go_quiet ((first
                  | (go_at_call 40; first | exact quiet_pq (HWA.out _) | exact quiet_pp (HWA.out _) | exact quiet_p (HWA.out _))))
                go_wp2
                go_ret
                exact ⟨by rw [HF.out]; try rfl, n2 + nq, by first | rfl | rw [World.drewN_drewN]⟩
              | true =>
                by_cases hi0 : 0 < i
                · have hi0i : (0 : Int) < (i : Int) := by omega
                  have hi1 : (i : Int) - 1 = ((i - 1 : Nat) : Int) := by omega
                  have hi2 : ((i - 1 : Nat) : Int) < (im.length : Int) := by omega
                  obtain ⟨gJ, cJ, aJ, cJ', e1, y0, -, -⟩ := HIM.out.file (j := i - 1) (by omega)
                  injection e1 with e2 e3 e4
                  injection e2 with e5
                  injection e5 with e6 e7 e8
                  subst e6
                  clear e3 e4 e7 e8
                  obtain ⟨nq', hnq⟩ : ∃ q, (im.getD (i - 1) ([], [])).1 = q := ⟨_, rfl⟩
                  rw [hnq] at y0 HFA
                  clear hnq
                  have hls : Op.bytesLess (str nq').toList (str nm).toList = !decide (nm ≤ nq') := by
                    rw [bytesLess_eq, ByteArray.toList_eq, ByteArray.toList_eq, str_list, str_list]
                    show decide (nq' < nm) = !decide (¬ nq' < nm)
                    by_cases hh : nq' < nm <;> simp [hh]
                  by_cases hle : nm ≤ nq'
                  · have hb0 : Op.bytesLess (str nq').toList (str nm).toList = false := by rw [hls, decide_eq_true hle]; rfl
                    have HF : Hid (fitsB p l im = false) := HST.out.1 (by rw [HFA.out, decide_eq_true hi0, decide_eq_true hle]; rfl)
                    clear HST HFA hls hle
                    go_wp2
                    go_quiet ((first
                      | (go_at_call 40; first | exact quiet_pq (HWA.out _) | exact quiet_pp (HWA.out _) | exact quiet_p (HWA.out _))))
                    go_wp2
                    go_ret
                    exact ⟨by rw [HF.out]; try rfl, n2 + nq, by first | rfl | rw [World.drewN_drewN]⟩
                  · have hb0 : Op.bytesLess (str nq').toList (str nm).toList = true := by rw [hls, decide_eq_false hle]; rfl
                    have HF : Hid (∀ j, j < i + 1 → fitAt p l im j = true) := HST.out.2 (by rw [HFA.out, decide_eq_true hi0, decide_eq_false hle]; rfl)
                    clear HST HFA hls hle
                    go_wp2
                    go_quiet ((first
                      | (go_at_call 40; first | exact quiet_pq (HWA.out _) | exact quiet_pp (HWA.out _) | exact quiet_p (HWA.out _))))
                    go_wp2
                    go_roundw
                    case rel => exact ⟨i + 1, by omega, by go_num, ⟨n2 + nq, by first | rfl | rw [World.drewN_drewN]⟩, HF⟩
                    case measure => simp [intOf]; omega
                · have hi0i : ¬ (0 : Int) < (i : Int) := by omega
                  have HF : Hid (∀ j, j < i + 1 → fitAt p l im j = true) := HST.out.2 (by rw [HFA.out, decide_eq_false hi0]; rfl)
                  clear HST HFA
                  go_wp2
                  go_quiet ((first
                    | (go_at_call 40; first | exact quiet_pq (HWA.out _) | exact quiet_pp (HWA.out _) | exact quiet_p (HWA.out _))))
                  go_wp2
                  go_roundw
                  case rel => exact ⟨i + 1, by omega, by go_num, ⟨n2 + nq, by first | rfl | rw [World.drewN_drewN]⟩, HF⟩
                  case measure => simp [intOf]; omega
      · have HF : Hid (fitsB p l im = true) := (fits_stop HLN.out HB.out).2 (by omega)
        have hie : i = im.length := by omega
        subst hie
        clear HB
        go_wp2
        go_ret
        exact ⟨by rw [HF.out]; try rfl, _, rfl⟩
  · have HF : Hid (fitsB p l im = false) := by unfold Hid fitsB; rw [decide_eq_false hlen]; rfl
    have hbl2 : ((l.length : Int) != (im.length : Int)) = true := by simp; omega
    have hbl : ((l.length : Int) == (im.length : Int)) = false := by simp; omega
    clear h hl hi hx
    go_enter Try.func16, Try.ntmps16
    go_wp2
    go_ret
    exact ⟨by rw [HF.out]; try rfl, 0, rfl⟩
end Go.Proofs.Ytgpmhflndcppeaa
