import Derived.Test.YtlnppgjppfkocaaGreatDoorGq27
import Derived.Test.YtlnppgjppfkocaaGreatDoorGq21
import Derived.Test.YtlnppgjppfkocaaGreatDoorGq20
import Derived.Lib.OthersKept
import Derived.Lib.TrimU
import Derived.Lib.QuoteLoop
import Derived.WalkSmall
import Derived.Test.YtlnppgjppfkocaaGreatDoorGq17
import Derived.Test.YtlnppgjppfkocaaGreatDoorGq14
/-! The program's reader: texts. -/
namespace Go.Proofs.YtlnppgjppfkocaaGreatDoor.Xs
open Go.RowKit Plain
set_option linter.unusedVariables false
set_option linter.unusedSimpArgs false

/-- What Unquote answers. -/
def UqsP (s : By) (e : Ending) : Prop :=
  (∃ y : By, e = .returned (.tuple #[.string (ba y), .nilIface]) ∧ y.length ≤ 4 * s.length ∧ (∀ x, s = quo x → y = x)) ∨
  ((∀ x, s ≠ quo x) ∧ ∃ (y : By) (T : TypeId) (p : Value), e = .returned (.tuple #[.string (ba y), .iface T p]))
set_option maxHeartbeats 4000000 in
theorem sUnquoteOf (W : World) (s : By) (h34 : s.getD 0 0 = 34) (hl0 : s.length ≠ 0) (hl : s.length ≤ 4096) (w : World) (hE : ErrAt W) (hb : Below W.heap.size W w) (hU : Lib.Utf8Tabs 4 5 W) :
    Calls Tryz.prog 120 #[.string (ba s)] w fun e w' => UqsP s e ∧ Below w.heap.size w w' := by
  have HC := mkW (unquoteOf W s h34 hl0 hl w hE hb hU)
  go_enter Tryz.func120, Tryz.ntmps120
  go_wp2_with (go_at_call 136; refine HC.out.mono ?_)
  rintro e w1 ⟨⟨y, rem, rfl, hyl, hy⟩ | ⟨hn, y, rem, T, p, rfl⟩, hb1⟩
  · have HY := mkW hy
    have HB1 := mkW hb1
    obtain ⟨⟨te, pe, hs⟩, _⟩ := hE.later (below_on hb hb1)
    have hszr : (ba rem).size = rem.length := rfl
    clear hy hb1 HC
    by_cases hr : rem.length = 0
    · have hri : ¬ (0 : Int) < (rem.length : Int) := by omega
      go_wp2
      go_ret2
      exact ⟨Or.inl ⟨y, rfl, hyl, fun x e => (HY.out x e).1⟩, HB1.out⟩
    · have hri : (0 : Int) < (rem.length : Int) := by omega
      have HN : Hid (∀ x, s ≠ quo x) := fun x e => hr (by rw [(HY.out x e).2]; rfl)
      clear HY
      go_wp2
      go_quiet (fail)
      go_wp2
      go_ret2
      exact ⟨Or.inr ⟨HN.out, [], te, pe, rfl⟩, Below.drewN' HB1.out _⟩
  · have HN := mkW hn
    have HB1 := mkW hb1
    obtain ⟨⟨te, pe, hs⟩, _⟩ := hE.later (below_on hb hb1)
    have hszr : (ba rem).size = rem.length := rfl
    clear hn hb1 HC
    by_cases hr : rem.length = 0
    · have hri : ¬ (0 : Int) < (rem.length : Int) := by omega
      go_wp2
      go_ret2
      exact ⟨Or.inr ⟨HN.out, y, T, p, rfl⟩, HB1.out⟩
    · have hri : (0 : Int) < (rem.length : Int) := by omega
      go_wp2
      go_quiet (fail)
      go_wp2
      go_ret2
      exact ⟨Or.inr ⟨HN.out, [], te, pe, rfl⟩, Below.drewN' HB1.out _⟩
theorem cloneOf (s : By) (hl : s.length ≤ 281474976710656) (w : World) : Calls Tryz.prog 119 #[.string (ba s)] w fun e w' => e = .returned (.string (ba s)) ∧ Below w.heap.size w w' := by
  go_enter Tryz.func119, Tryz.ntmps119
  go_wp2_with (go_at_call 135; refine (Any.stringslite_Clone Tryz.lClone (ba s) _ hl).mono ?_; rintro e w1 ⟨rfl, hb1⟩)
  go_ret
  exact ⟨rfl, hb1⟩
theorem quo_of {p x : By} (h0 : p.getD 0 0 = 34) (h : p = txt x) : p = quo x := by
  rcases txt_forms x with ⟨hne, hall, e⟩ | e
  · exfalso
    rw [e] at h
    subst h
    cases p with
    | nil => exact hne rfl
    | cons c r =>
      have hc : c = 34 := h0
      exact (pl_ne c (List.all_eq_true.1 hall c (by simp))).1 hc
  · exact h.trans e
theorem prefix_q (p : By) : Lib.hasPrefix p (⟨#[34]⟩ : ByteArray).data.toList = decide (p.length ≠ 0 ∧ p.getD 0 0 = 34) := by
  unfold Lib.hasPrefix
  cases p with
  | nil => rfl
  | cons c r =>
    show ([34] : List UInt8).isPrefixOf (c :: r) = _
    by_cases h : c = 34
    · subst h; simp
    · have : (34 : UInt8) ≠ c := Ne.symm h
      simp [List.isPrefixOf, h, this]
/-- What text answers. -/
def TxtP (w : World) (g b : Nat) (ps : List By) (e : Ending) (w' : World) : Prop :=
  (∃ p qs y, ps = p :: qs ∧ e = .returned (.string (ba y)) ∧ y.length ≤ 20000 ∧ (∀ x, p = txt x → y = x) ∧ RdAt w' g b qs ∧ Ch (· = g) w w') ∨
  ((∀ p qs, ps = p :: qs → ∀ x, p ≠ txt x) ∧ e = .panicked [gaveE] ∧ Ch (· = g) w w')
set_option maxHeartbeats 8000000 in
theorem rTextOf (W w : World) (g b : Nat) (ps : List By) (hE : ErrAt W) (hU : Lib.Utf8Tabs 4 5 W) (h : RdW W w g b ps) :
    Calls Tryz.prog 101 #[.pointer (some ⟨g, 0, none⟩)] w (TxtP w g b ps) := by
  have HR := mkW h
  have HE := mkW hE
  have HU := mkW hU
  clear h hE hU
  go_enter Tryz.func101, Tryz.ntmps101
  go_wp2_with (go_at_call 45; refine (rWordOf _ g b ps HR.out.rd).mono ?_)
  rintro e w1 (⟨p, qs, rfl, rfl, hr1, hc1⟩ | ⟨rfl, rfl, rfl⟩)
  · have HR1 := mkW (HR.out.go hr1 hc1)
    have HC1 := mkW hc1
    have hpl : p.length ≤ 4096 := HR.out.len p (by simp)
    clear hr1 hc1
    have HPX : Hid (∀ u, Calls Tryz.prog 118 #[.string (ba p), .string ⟨#[34]⟩] u fun e w' => e = .returned (.bool (decide (p.length ≠ 0 ∧ p.getD 0 0 = 34))) ∧ w' = u) := fun u => by
      have := Any.strings_HasPrefix Tryz.lPrefix (ba p) ⟨#[34]⟩ u
      rw [ba_list2, prefix_q] at this
      exact this
    by_cases hq : p.length ≠ 0 ∧ p.getD 0 0 = 34
    · rw [show decide (p.length ≠ 0 ∧ p.getD 0 0 = 34) = true from decide_eq_true hq] at HPX
      have HUQ := mkW (sUnquoteOf W p hq.2 hq.1 hpl w1 HE.out HR1.out.bel HU.out)
      have HQ0 := mkW hq.2
      clear hq
      go_wp2_with (first | (go_at_call 118; refine (HPX.out _).mono ?_; rintro e w2 ⟨rfl, rfl⟩) | (go_at_call 120; refine HUQ.out.mono ?_))
      rintro e w3 ⟨⟨y, rfl, hyl, hy⟩ | ⟨hn, y, T, pv, rfl⟩, hb3⟩
      · have HY : Hid (∀ x, p = txt x → y = x) := fun x e => hy x (quo_of HQ0.out e)
        have HB3 := mkW hb3
        clear hy hb3 HUQ
        go_wp2_with (go_at_call 119; refine (cloneOf y (by omega) _).mono ?_; rintro e w4 ⟨rfl, hb4⟩)
        go_ret
        have hb5 := below_on HB3.out hb4
        exact Or.inl ⟨p, qs, y, rfl, rfl, by omega, HY.out, HR1.out.rd.later hb5, HC1.out.more hb5⟩
      · have HN : Hid (∀ x, p ≠ txt x) := fun x e => hn x (quo_of HQ0.out e)
        have HC3 := mkW (HC1.out.more hb3)
        clear hn hb3 HUQ
        go_wp2_with (go_at_call 27; refine (gaveOf _).mono ?_; rintro e w4 ⟨rfl, rfl⟩)
        exact ⟨by trivial, Or.inr ⟨fun p' qs' e => by cases e; exact HN.out, rfl, HC3.out⟩⟩
    · rw [show decide (p.length ≠ 0 ∧ p.getD 0 0 = 34) = false from decide_eq_false hq] at HPX
      have HY : Hid (∀ x, p = txt x → p = x) := fun x e => txt_bare (by
        by_cases h0 : p.length = 0
        · left; omega
        · right; exact fun e => hq ⟨h0, e⟩) x e
      clear hq
      go_wp2_with (first | (go_at_call 118; refine (HPX.out _).mono ?_; rintro e w2 ⟨rfl, rfl⟩) | (go_at_call 119; refine (cloneOf p (by omega) _).mono ?_; rintro e w4 ⟨rfl, hb4⟩))
      go_ret
      exact Or.inl ⟨p, qs, p, rfl, rfl, by omega, HY.out, HR1.out.rd.later hb4, HC1.out.more hb4⟩
  · exact ⟨by trivial, Or.inr ⟨fun p qs e => (by cases e), rfl, Ch.refl _ _⟩⟩
end Go.Proofs.YtlnppgjppfkocaaGreatDoor.Xs

/-! The program's cut. -/
namespace Go.Proofs.YtlnppgjppfkocaaGreatDoor.Xs
open Go.RowKit Go.Lib Plain
set_option linter.unusedVariables false
set_option linter.unusedSimpArgs false

/-- Within cut: the parts so far, the iterator's place. -/
structure CtS (W w : World) (s : ByteArray) (pos : Nat) (v : Value) (l : List By) : Prop where
  ex : ∃ r, OwnV w v (strs l) r ∧ ∀ g, r = some g → W.heap.size < g
  it : w.heap[W.heap.size]? = some (.stringIter s pos)
  bel : Below W.heap.size W w
theorem iterAt_grown (w : World) (k : Nat) (s : ByteArray) (pos : Nat) : w.grownBy (w.iterAt k s pos) (some k) :=
  ⟨rfl, rfl, rfl, by rw [iterAt_size]; exact Nat.le_refl _, fun j hj hne => iterAt_other w k j s pos (fun e => hne (by rw [e]))⟩
theorem CtS.next {W w : World} {s : ByteArray} {pos : Nat} {v : Value} {l : List By} (h : CtS W w s pos v l) (p : Nat) : CtS W (w.iterAt W.heap.size s p) s p v l := by
  obtain ⟨r, h1, h2⟩ := h.ex
  exact ⟨⟨r, h1.kept (iterAt_grown w _ s p) (by
    rcases r with _ | g
    · exact .inl rfl
    · have := h2 g rfl
      exact .inr (by simp only [ne_eq, Option.some.injEq]; omega)), h2⟩, iterAt_heap w _ s pos p h.it, below_iterAt h.bel (Nat.le_refl _) s p⟩
theorem CtS.slice {W w : World} {s : ByteArray} {pos : Nat} {v : Value} {l : List By} (h : CtS W w s pos v l) : ∃ a cap, v = .slice a l.length cap := by
  obtain ⟨r, h1, _⟩ := h.ex
  obtain ⟨a, c, e, _⟩ := h1.shape
  exact ⟨a, c, by rw [e, strs_len]⟩
theorem wpList_append_ct {ops : Array Oper} {rest : List Oper} {o : Oper} {a : Act} {Q : Exit → Act → World → Prop} {W : World} {t : ByteArray} {pos : Nat} (w w1 : World) (hgd : o.guard = none) (s x : Operand)
    (ho : o.op = .call { callee := .builtin .append, args := #[s, x], argTypes := #[43, 43] }) (v xv : Value) (l : List By) (y : By)
    (hs : a.eval s = v) (hx : a.eval x = xv) (h : CtS W w t pos v l) (hb1 : Below w.heap.size w w1) (hsrc : Src Tryz.prog 1 43 xv [Value.string (ba y)].length [Value.string (ba y)] w1) (hlen : l.length ≤ 8796093022000)
    (hK : ∀ v' w', CtS W w' t pos v' (l ++ [y]) → wpList Tryz.prog ops Q rest (a.put o.dst v') w') : wpList Tryz.prog ops Q (o :: rest) a w1 := by
  obtain ⟨r, h1, h2⟩ := h.ex
  have hit : W.heap.size < w.heap.size := (Array.getElem?_eq_some_iff.1 h.it).1
  refine wpList_append_txs w1 hgd s x ho v xv (strs l) [.string (ba y)] r hs hx (ownV_later h1 hb1) hsrc (by rw [strs_len]; simp; omega) (.inr (by simp)) ?_
  intro v' w' g ho' hg' hr'
  refine hK v' w' ⟨⟨some g, by rw [strs_app]; exact ho', fun g' e => ?_⟩, ?_, ?_⟩
  · cases e
    rcases hr' with k | k
    · exact h2 g k.symm
    · have := hb1.size; omega
  · rw [hg'.block _ (Nat.lt_of_lt_of_le hit hb1.size) (fun e => by have := h2 _ e.symm; omega), hb1.block _ hit]
    exact h.it
  · exact (h.bel.trans (hb1.mono h.bel.size)).trans (grow_below hg' (Nat.le_trans h.bel.size hb1.size) (fun g e => by have := h2 g e; omega))
theorem dec_le (s : By) (pos : Nat) (h : pos < s.length) : 1 ≤ (Utf8.decode (ba s) pos).2 ∧ (s.getD pos 0 |>.toNat) < 128 → (Utf8.decode (ba s) pos) = ((s.getD pos 0).toNat, 1) := fun ⟨_, h128⟩ => by
  have hk : pos < (ba s).size := h
  rw [decode_ascii (ba s) pos hk (by rw [ba_get hk]; exact h128), ba_get hk]
theorem of_asc {line : By} {d : Cm} (h : Of line d) {pos : Nat} (hp : pos < line.length) : (line.getD pos 0).toNat < 128 := by
  have := of_vis h (line.getD pos 0) (by rw [List.getD_eq_getElem?_getD, List.getElem?_eq_getElem hp]; exact List.getElem_mem hp)
  omega
set_option maxHeartbeats 16000000 in
set_option maxRecDepth 100000 in
theorem cutOf (line : By) (hl : line.length ≤ 4096) (w : World) :
    Calls Tryz.prog 26 #[.string (ba line)] w fun e w' => (∃ v ps r, e = .returned v ∧ OwnV w' v (strs ps) r ∧ (∀ g, r = some g → w.heap.size < g) ∧ ps ≠ [] ∧ ps.length ≤ 5000 ∧ (∀ x ∈ ps, x.length ≤ 4096) ∧ (∀ d, Of line d → ps = verbT d.verb :: argsL d)) ∧ Below w.heap.size w w' := by
  have hsz : (ba line).size = line.length := rfl
  go_enter Tryz.func26, Tryz.ntmps26
  go_wp2
  go_loopw [3, 4, 5, 6] (fun v f q e wl => ∃ (pos fr : Nat) (within esc : Bool) (l : List By) (a : Option Addr) (cap : Nat), v = .slice a l.length cap ∧ f = .int .i64 fr ∧ q = .bool within ∧ e = .bool esc ∧ fr ≤ pos ∧ pos ≤ line.length ∧ l.length ≤ fr ∧ Hid (∀ x ∈ l, x.length ≤ 4096) ∧ Hid (∀ d, Of line d → PrP line pos esc within fr l) ∧ Hid (CtS w wl (ba line) pos (.slice a l.length cap) l)) (fun _ _ _ _ wl => line.length - wl.iterPos w.heap.size)
  case atStart => exact ⟨0, 0, false, false, [], none, 0, rfl, rfl, rfl, rfl, by omega, by omega, by simp, (fun x hx => by cases hx), fun d _ => PrP.start line, ⟨⟨none, OwnV.nil _, by simp⟩, World.iter_heap w (ba line) 0, (Below.refl _ _).alloc (Nat.le_refl _) _⟩⟩
  case round =>
    obtain ⟨pos, fr, q, e, l, a, cap, rfl, rfl, rfl, rfl, hf, hpl, hll, HX, HP, HC⟩ := hrel
    have hit := HC.out.it
    by_cases hp : pos < line.length
    · have hpb : pos < (ba line).size := hp
      have hnx := fun ty => run_next_any_at (P := Tryz.prog) wr w.heap.size (ba line) pos ty hit hpb
      have hk1 : 1 ≤ (Utf8.decode (ba line) pos).2 := Lib.width_pos _ _
      have hk2 : pos + (Utf8.decode (ba line) pos).2 ≤ line.length := by
        have := decodeN_width_le ((ba line).size - pos) ((ba line).get! pos).toNat ((ba line).get! (pos + 1)).toNat ((ba line).get! (pos + 2)).toNat ((ba line).get! (pos + 3)).toNat (by omega)
        rw [← decode_at] at this
        rw [hsz] at this
        omega
      have HASC : Hid (∀ d, Of line d → (Utf8.decode (ba line) pos).2 = 1 ∧ ((Utf8.decode (ba line) pos).1 : Int) = (line.getD pos 0).toNat) := fun d hd => by
        have := dec_le line pos hp ⟨hk1, of_asc hd hp⟩
        rw [this]; exact ⟨rfl, rfl⟩
      have hz2 := decode_le (ba line) pos
      obtain ⟨K, hK⟩ : ∃ K, (Utf8.decode (ba line) pos).2 = K := ⟨_, rfl⟩
      obtain ⟨z, hz⟩ : ∃ z : Int, ((Utf8.decode (ba line) pos).1 : Int) = z := ⟨_, rfl⟩
      have HCN : Hid (CtS w (wr.iterAt w.heap.size (ba line) (pos + K)) (ba line) (pos + K) (.slice a l.length cap) l) := HC.out.next _
      have HMS : Hid (∀ u : World, u.heap[w.heap.size]? = some (.stringIter (ba line) (pos + K)) → line.length - u.iterPos w.heap.size < line.length - wr.iterPos w.heap.size) := fun u hu => by
        rw [iterPos_of hu, iterPos_of hit]; omega
      rw [hK] at hk1 hk2 HASC
      rw [hz] at HASC
      simp only [hK, hz] at hnx
      have hzl : z ≤ 2147483647 := by omega
      have hzg : 0 ≤ z := by omega
      clear hK hz hz2 hit
      cases e with
      | true =>
        have HP2 : Hid (∀ d, Of line d → PrP line (pos + K) false q fr l) := fun d hd => by
          rw [(HASC.out d hd).1]; exact (HP.out d hd).esc hp hf
        go_wp2
        go_roundw
        case rel => exact ⟨pos + K, fr, q, false, l, a, cap, rfl, rfl, rfl, rfl, by omega, hk2, hll, HX, HP2, HCN⟩
        case measure => exact HMS.out _ HCN.out.it
      | false =>
        have HB : Hid (∀ d, Of line d → ∀ c : UInt8, z = (c.toNat : Int) → line.getD pos 0 = c) := fun d hd c hc => UInt8.toNat_inj.1 (by have := (HASC.out d hd).2; omega)
        by_cases c92 : z = 92
        · have h92 : (z == 92) = true := by rw [c92]; rfl
          have HP2 : Hid (∀ d, Of line d → PrP line (pos + K) true q fr l) := fun d hd => by
            rw [(HASC.out d hd).1]; exact (HP.out d hd).back hp hf (HB.out d hd 92 c92)
          clear c92
          go_wp2
          go_roundw
          case rel => exact ⟨pos + K, fr, q, true, l, a, cap, rfl, rfl, rfl, rfl, by omega, hk2, hll, HX, HP2, HCN⟩
          case measure => exact HMS.out _ HCN.out.it
        · have h92 : (z == 92) = false := by rw [beq_eq_false_iff_ne]; exact c92
          by_cases c34 : z = 34
          · have h34 : (z == 34) = true := by rw [c34]; rfl
            have HP2 : Hid (∀ d, Of line d → PrP line (pos + K) false (!q) fr l) := fun d hd => by
              rw [(HASC.out d hd).1]; exact (HP.out d hd).quote hp hf (HB.out d hd 34 c34)
            clear c34 c92
            go_wp2
            go_roundw
            case rel => exact ⟨pos + K, fr, !q, false, l, a, cap, rfl, rfl, rfl, rfl, by omega, hk2, hll, HX, HP2, HCN⟩
            case measure => exact HMS.out _ HCN.out.it
          · have h34 : (z == 34) = false := by rw [beq_eq_false_iff_ne]; exact c34
            have HN92 : Hid (∀ d, Of line d → line.getD pos 0 ≠ 92) := fun d hd e => c92 (by have := (HASC.out d hd).2; rw [e] at this; exact this)
            have HN34 : Hid (∀ d, Of line d → line.getD pos 0 ≠ 34) := fun d hd e => c34 (by have := (HASC.out d hd).2; rw [e] at this; exact this)
            by_cases c32 : z = 32
            · have h32 : (z == 32) = true := by rw [c32]; rfl
              cases q with
              | false =>
                have HP2 : Hid (∀ d, Of line d → PrP line (pos + K) false false (pos + 1) (l ++ [(line.take pos).drop fr])) := fun d hd => by
                  rw [(HASC.out d hd).1]; exact (HP.out d hd).blank hp (HB.out d hd 32 c32)
                have hsl : ∀ u, (Instr.slice 9 (.string (ba line)) (some (.int .i64 (fr : Int))) (some (.int .i64 (pos : Int))) none).run Tryz.prog u = .ok (.string (ba ((line.take pos).drop fr))) u := fun u => by
                  rw [run_slice_string u 9 (ba line) .i64 .i64 (fr : Int) (pos : Int) Tryz.underlying9 (by omega) (by omega) (by rw [hsz]; omega)]
                  rw [show ((fr : Int)).toNat = fr by omega, show ((pos : Int)).toNat = pos by omega, ba_sub]
                have HYL : Hid (((line.take pos).drop fr).length ≤ 4096) := by unfold Hid; rw [List.length_drop, List.length_take]; omega
                generalize (line.take pos).drop fr = y at *
                clear c34 c92 c32 HB
                go_wp2_with (at_builtin; refine wpList_append_ct _ _ rfl _ _ rfl _ _ l y rfl rfl HCN.out ?hBel ?hSrc ?hLen ?_)
                case hBel => exact (Below.refl _ _).alloc (Nat.le_refl _) _
                case hSrc => exact srcTx _ (ba y)
                case hLen => omega
                intro v' w3 hc3
                obtain ⟨a3, c3, rfl⟩ := hc3.slice
                have HC3 := mkW hc3
                have HX3 : Hid (∀ x ∈ l ++ [y], x.length ≤ 4096) := fun x hx => by
                  rcases List.mem_append.1 hx with h | h
                  · exact HX.out x h
                  · rw [List.mem_singleton.1 h]; exact HYL.out
                have hl3 : (l ++ [y]).length = l.length + 1 := by simp
                generalize l ++ [y] = l3 at *
                clear hc3
                obtain ⟨n3, hn3⟩ : ∃ n, l3.length = n := ⟨_, rfl⟩
                have HN3 := mkW hn3
                rw [hn3] at hl3 HC3 ⊢
                clear hn3
                go_wp2
                go_roundw
                case rel => exact ⟨pos + K, pos + 1, false, false, l3, a3, c3, by rw [HN3.out], by go_num, rfl, rfl, by omega, hk2, by have := HN3.out; omega, HX3, HP2, by rw [HN3.out]; exact HC3⟩
                case measure => exact HMS.out _ HC3.out.it
              | true =>
                have HP2 : Hid (∀ d, Of line d → PrP line (pos + K) false true fr l) := fun d hd => by
                  rw [(HASC.out d hd).1]; exact (HP.out d hd).other hp hf (HN34.out d hd) (HN92.out d hd) (fun e => by cases e)
                clear c34 c92 c32 HB
                go_wp2
                go_roundw
                case rel => exact ⟨pos + K, fr, true, false, l, a, cap, rfl, rfl, rfl, rfl, by omega, hk2, hll, HX, HP2, HCN⟩
                case measure => exact HMS.out _ HCN.out.it
            · have h32 : (z == 32) = false := by rw [beq_eq_false_iff_ne]; exact c32
              have HP2 : Hid (∀ d, Of line d → PrP line (pos + K) false q fr l) := fun d hd => by
                rw [(HASC.out d hd).1]; exact (HP.out d hd).other hp hf (HN34.out d hd) (HN92.out d hd) (fun _ e => c32 (by have := (HASC.out d hd).2; rw [e] at this; exact this))
              clear c34 c92 c32 HB
              go_wp2
              go_roundw
              case rel => exact ⟨pos + K, fr, q, false, l, a, cap, rfl, rfl, rfl, rfl, by omega, hk2, hll, HX, HP2, HCN⟩
              case measure => exact HMS.out _ HCN.out.it
    · have hpe : pos = line.length := by omega
      have hpn : ¬ pos < (ba line).size := hp
      have hnx := fun ty => run_next_end_at (P := Tryz.prog) wr w.heap.size (ba line) pos ty hit hpn
      have HP2 : Hid (∀ d, Of line d → l ++ [line.drop fr] = verbT d.verb :: argsL d) := fun d hd => by
        rw [← (HP.out d hd).done (by omega)]; exact of_partsP hd
      have hext : (ba line).extract fr line.length = ba (line.drop fr) := by rw [ba_sub, List.take_length]
      have HYL : Hid ((line.drop fr).length ≤ 4096) := by unfold Hid; rw [List.length_drop]; omega
      have hfl : fr ≤ line.length := by omega
      clear hit
      generalize line.drop fr = y at *
      go_wp2_with (at_builtin; refine wpList_append_ct _ _ rfl _ _ rfl _ _ l y rfl rfl HC.out ?hBel ?hSrc ?hLen ?_)
      case hBel => exact (Below.refl _ _).alloc (Nat.le_refl _) _
      case hSrc => exact srcTx _ (ba y)
      case hLen => omega
      intro v' w3 hc3
      have HC3 := mkW hc3
      clear hc3
      go_wp2
      go_ret
      obtain ⟨r, ho, hr⟩ := HC3.out.ex
      exact ⟨⟨_, l ++ [y], r, rfl, ho, hr, by simp, by rw [List.length_append, List.length_singleton]; omega, (fun x hx => by
        rcases List.mem_append.1 hx with h | h
        · exact HX.out x h
        · rw [List.mem_singleton.1 h]; exact HYL.out), HP2.out⟩, HC3.out.bel⟩
end Go.Proofs.YtlnppgjppfkocaaGreatDoor.Xs

/-! The program's reading of fields. -/
namespace Go.Proofs.YtlnppgjppfkocaaGreatDoor.Xs
open Go.RowKit Plain
set_option linter.unusedVariables false
set_option linter.unusedSimpArgs false

theorem Bx.ch {W u u' : World} {X : Nat} {l : List Value} {S : Nat → Prop} (h : Bx W u X l) (k : Ch S u u') (hX : ¬ S X) : Bx W u' X l := by
  have hb := k.block X h.lt hX
  exact ⟨fun j hj => (World.cell?_of_block (w := u) (a := ⟨X, j, none⟩) hb).trans (h.c j hj), fun j hj => by rw [World.frozen?_of_block (w := u) (a := ⟨X, j, none⟩) hb]; exact h.fz j hj, h.ge, Nat.lt_of_lt_of_le h.lt k.size⟩
theorem own_ch {w w' : World} {v : Value} {l : List Nat} {r : Option Nat} {S : Nat → Prop} (h : Own w v l r) (k : Ch S w w') (hr : ∀ x, r = some x → ¬ S x) : Own w' v l r := by
  rcases h with ⟨hb, ⟨e, e2, e3⟩ | ⟨g, cap, e, e2, hg, h1, h2, h3, h4, h5⟩⟩
  · exact ⟨hb, .inl ⟨e, e2, e3⟩⟩
  · have hbk := k.block g hg (hr g e)
    refine ⟨hb, .inr ⟨g, cap, e, e2, Nat.lt_of_lt_of_le hg k.size, h1, h2, fun j hj => ?_, fun j hj => ?_, fun j hj => ?_⟩⟩
    · rw [World.frozen?_of_block (w := w) (a := ⟨g, j, none⟩) hbk]; exact h3 j hj
    · rw [World.cell?_of_block (w := w) (a := ⟨g, j, none⟩) hbk]; exact h4 j hj
    · rw [World.cell?_of_block (w := w) (a := ⟨g, j, none⟩) hbk]; exact h5 j hj
/-- Where a number is read into a command's box. -/
def FldP (W w : World) (g b X : Nat) (ps : List By) (L : Int → List Value) (e : Ending) (w' : World) : Prop :=
  (∃ p qs n, ps = p :: qs ∧ e = .returned (.tuple #[]) ∧ I64 n ∧ (∀ m, I64 m → p = Lib.itoa m → n = m) ∧ RdW W w' g b qs ∧ Bx W w' X (L n) ∧ Ch (fun k => k = g ∨ k = X) w w') ∨
  ((∀ p qs, ps = p :: qs → ∀ m, I64 m → p ≠ Lib.itoa m) ∧ e = .panicked [gaveE] ∧ Ch (fun k => k = g ∨ k = X) w w')
set_option maxHeartbeats 3200000 in
theorem rConnOf (W w : World) (g b X : Nat) (ps : List By) (c : Cm) (vr vp : Value) (hE : ErrAt W) (h : RdW W w g b ps) (hX : Bx W w X (cmLst c vr vp)) (hg : X ≠ g) (hb : X ≠ b) :
    Calls Tryz.prog 63 #[.pointer (some ⟨g, 0, none⟩), .pointer (some ⟨X, 0, none⟩)] w (FldP W w g b X ps fun n => cmLst { c with conn := n } vr vp) := by
  have HR := mkW h
  have HX := mkW hX
  have HE := mkW hE
  clear h hX hE
  go_enter Tryz.func63, Tryz.ntmps63
  go_wp2_with (go_at_call 95; refine (rNumOf W _ g b ps HE.out HR.out).mono ?_)
  rintro e w1 (⟨p, qs, n, rfl, rfl, hn, hm, hr1, hc1⟩ | ⟨hno, rfl, hc1⟩)
  · have HM := mkW hm
    have HX1 := mkW (HX.out.ch hc1 hg)
    have HR1 := mkW (HR.out.go hr1 hc1)
    have HC1 := mkW hc1
    have z := HX1.out.c 1 (by simp [cmLst])
    have f := HX1.out.fz 1 (by simp [cmLst])
    have z' : w1.cell? ⟨X, 1, none⟩ = some (.int .i64 c.conn) := z
    clear hm hr1 hc1 z
    go_wp2
    go_end0
    have hset := HX1.out.set (i := 1) (l' := cmLst { c with conn := n } vr vp) (by simp [cmLst]) (.int .i64 n) rfl
    have hch : Ch (fun k => k = g ∨ k = X) w1 (w1.setCell ⟨X, 1, none⟩ (.int .i64 n)) := (Ch.refl _ _).set 1 _ (.inr rfl)
    exact Or.inl ⟨p, qs, n, rfl, rfl, hn, HM.out, HR1.out.ch (S := (· = X)) ((Ch.refl _ _).set 1 _ rfl) (fun k e => by rw [e]; exact HX1.out.ge) (Ne.symm hg) (Ne.symm hb), hset, (HC1.out.mono (fun k e => .inl e)).trans hch⟩
  · exact ⟨by trivial, Or.inr ⟨hno, rfl, hc1.mono (fun k e => .inl e)⟩⟩
set_option maxHeartbeats 3200000 in
theorem rNOf (W w : World) (g b X : Nat) (ps : List By) (c : Cm) (vr vp : Value) (hE : ErrAt W) (h : RdW W w g b ps) (hX : Bx W w X (cmLst c vr vp)) (hg : X ≠ g) (hb : X ≠ b) :
    Calls Tryz.prog 69 #[.pointer (some ⟨g, 0, none⟩), .pointer (some ⟨X, 0, none⟩)] w (FldP W w g b X ps fun n => cmLst { c with n := n } vr vp) := by
  have HR := mkW h
  have HX := mkW hX
  have HE := mkW hE
  clear h hX hE
  go_enter Tryz.func69, Tryz.ntmps69
  go_wp2_with (go_at_call 95; refine (rNumOf W _ g b ps HE.out HR.out).mono ?_)
  rintro e w1 (⟨p, qs, n, rfl, rfl, hn, hm, hr1, hc1⟩ | ⟨hno, rfl, hc1⟩)
  · have HM := mkW hm
    have HX1 := mkW (HX.out.ch hc1 hg)
    have HR1 := mkW (HR.out.go hr1 hc1)
    have HC1 := mkW hc1
    have z := HX1.out.c 12 (by simp [cmLst])
    have f := HX1.out.fz 12 (by simp [cmLst])
    have z' : w1.cell? ⟨X, 12, none⟩ = some (.int .i64 c.n) := z
    clear hm hr1 hc1 z
    go_wp2
    go_end0
    have hset := HX1.out.set (i := 12) (l' := cmLst { c with n := n } vr vp) (by simp [cmLst]) (.int .i64 n) rfl
    have hch : Ch (fun k => k = g ∨ k = X) w1 (w1.setCell ⟨X, 12, none⟩ (.int .i64 n)) := (Ch.refl _ _).set 12 _ (.inr rfl)
    exact Or.inl ⟨p, qs, n, rfl, rfl, hn, HM.out, HR1.out.ch (S := (· = X)) ((Ch.refl _ _).set 12 _ rfl) (fun k e => by rw [e]; exact HX1.out.ge) (Ne.symm hg) (Ne.symm hb), hset, (HC1.out.mono (fun k e => .inl e)).trans hch⟩
  · exact ⟨by trivial, Or.inr ⟨hno, rfl, hc1.mono (fun k e => .inl e)⟩⟩
/-- What a verb's reading answers. -/
def ReadP (W w : World) (line : By) (g X : Nat) (e : Ending) (w' : World) : Prop :=
  (∃ c vr vp r s, e = .returned (.tuple #[]) ∧ WfC c ∧ SzC c ∧ c.raw.length ≤ 10000 ∧ c.picks.length ≤ 10000 ∧ RdC line c ∧ Bx W w' X (cmLst c vr vp) ∧ Own w' vr (nats c.raw) r ∧ OwnV w' vp (ints c.picks) s ∧ (∀ x, r = some x → w.heap.size ≤ x ∧ x ≠ X) ∧ (∀ x, s = some x → w.heap.size ≤ x ∧ x ≠ X) ∧ (r = none ∨ s = none) ∧ Ch (fun k => k = g ∨ k = X) w w') ∨
  (NoC line ∧ e = .panicked [gaveE] ∧ Ch (fun k => k = g ∨ k = X) w w')
def cm0 (v : Int) : Cm := ⟨v, 0, Rq.zero, [], 0, []⟩
theorem rd_rest {line : By} {vb z : Int} {T : List By} (h : St2 line vb z T) (hv : vb = 0 ∨ vb = 1 ∨ vb = 9 ∨ vb = 10) : RdC line ⟨vb, z, Rq.zero, [], 0, []⟩ := rd_empty (fun d hd => by
  obtain ⟨e1, e2, e3⟩ := h d hd
  refine ⟨e1, e2, ?_⟩
  unfold restA
  rw [if_neg (by omega), if_neg (by omega), if_neg (by omega), if_neg (by omega)])
theorem wf_cm {v z n : Int} (hv : 0 ≤ v ∧ v < 11) (hz : I64 z) (hn : I64 n) : WfC ⟨v, z, Rq.zero, [], n, []⟩ := ⟨⟨by show -9223372036854775808 ≤ v; omega, by show v ≤ 9223372036854775807; omega⟩, hz, wf_zero, hn, fun x hx => by cases hx⟩
theorem sz_cm {v z n : Int} : SzC ⟨v, z, Rq.zero, [], n, []⟩ := ⟨by simp [Rq.zero], by simp [Rq.zero], by simp [Rq.zero]⟩
theorem i64_zero : I64 0 := ⟨by omega, by omega⟩
/-- What is known ahead of a verb's reading. -/
structure Rdy (W w : World) (line : By) (g b X : Nat) (v : Int) (ps : List By) : Prop where
  rd : RdW W w g b ps
  bx : Bx W w X (cmLst (cm0 v) nilV nilV)
  ng : X ≠ g
  nb : X ≠ b
  err : ErrAt W
  is : ∀ d, Of line d → v = d.verb ∧ ps = argsL d
  v0 : 0 ≤ v
  v1 : v < 11
  ln : ps.length ≤ 5000
theorem readConnV (W w : World) (line : By) (g b X : Nat) (v : Int) (ps : List By) (h : Rdy W w line g b X v ps) (hv : v = 0 ∨ v = 1) :
    Calls Tryz.prog 63 #[.pointer (some ⟨g, 0, none⟩), .pointer (some ⟨X, 0, none⟩)] w (ReadP W w line g X) := by
  refine (rConnOf W w g b X ps (cm0 v) nilV nilV h.err h.rd h.bx h.ng h.nb).mono fun e w' hp => ?_
  have hc : cnB v = true := by rcases hv with e | e <;> subst e <;> rfl
  rcases hp with ⟨p, qs, n, rfl, rfl, hn, hm, hr, hx, hch⟩ | ⟨hno, rfl, hch⟩
  · exact Or.inl ⟨⟨v, n, Rq.zero, [], 0, []⟩, nilV, nilV, none, none, rfl, wf_cm ⟨h.v0, h.v1⟩ hn i64_zero, sz_cm, by simp, by simp, rd_rest (st2_conn h.is hc hm) (by omega), hx, Own.nil _, OwnV.nil _, (fun x e => by cases e), (fun x e => by cases e), .inl rfl, hch⟩
  · exact Or.inr ⟨noc_conn h.is hc hno, rfl, hch⟩
theorem readNV (W w : World) (line : By) (g b X : Nat) (v : Int) (ps : List By) (h : Rdy W w line g b X v ps) (hv : v = 4 ∨ v = 7) :
    Calls Tryz.prog 69 #[.pointer (some ⟨g, 0, none⟩), .pointer (some ⟨X, 0, none⟩)] w (ReadP W w line g X) := by
  refine (rNOf W w g b X ps (cm0 v) nilV nilV h.err h.rd h.bx h.ng h.nb).mono fun e w' hp => ?_
  have hc : cnB v ≠ true := by rcases hv with e | e <;> subst e <;> decide
  have hs := st2_none h.is hc
  rcases hp with ⟨p, qs, n, rfl, rfl, hn, hm, hr, hx, hch⟩ | ⟨hno, rfl, hch⟩
  · exact Or.inl ⟨⟨v, 0, Rq.zero, [], n, []⟩, nilV, nilV, none, none, rfl, wf_cm ⟨h.v0, h.v1⟩ i64_zero hn, sz_cm, by simp, by simp, rd_n hs (by omega) (by omega) (by omega) (by omega) hm, hx, Own.nil _, OwnV.nil _, (fun x e => by cases e), (fun x e => by cases e), .inl rfl, hch⟩
  · exact Or.inr ⟨noc_n hs (by omega) hno, rfl, hch⟩
theorem readNoneV (W w : World) (line : By) (g b X : Nat) (v : Int) (ps : List By) (h : Rdy W w line g b X v ps) (hv : v = 9 ∨ v = 10) :
    Calls Tryz.prog 75 #[.pointer (some ⟨g, 0, none⟩), .pointer (some ⟨X, 0, none⟩)] w (ReadP W w line g X) := by
  have hc : cnB v ≠ true := by rcases hv with e | e <;> subst e <;> decide
  have hs := st2_none h.is hc
  have HH := mkW h
  clear h
  go_enter Tryz.func75, Tryz.ntmps75
  go_wp2
  go_end0
  exact Or.inl ⟨cm0 v, nilV, nilV, none, none, rfl, wf_cm ⟨HH.out.v0, HH.out.v1⟩ i64_zero i64_zero, sz_cm, by simp [cm0], by simp [cm0], rd_rest hs (by omega), HH.out.bx, Own.nil _, OwnV.nil _, (fun x e => by cases e), (fun x e => by cases e), .inl rfl, Ch.refl _ _⟩
set_option maxHeartbeats 3200000 in
theorem readTakeV (W w : World) (line : By) (g b X : Nat) (ps : List By) (h : Rdy W w line g b X 6 ps) :
    Calls Tryz.prog 73 #[.pointer (some ⟨g, 0, none⟩), .pointer (some ⟨X, 0, none⟩)] w (ReadP W w line g X) := by
  have HH := mkW h
  clear h
  go_enter Tryz.func73, Tryz.ntmps73
  go_wp2_with (go_at_call 63; refine (rConnOf W _ g b X ps (cm0 6) nilV nilV HH.out.err HH.out.rd HH.out.bx HH.out.ng HH.out.nb).mono ?_)
  rintro e w1 (⟨p, qs, n, rfl, rfl, hn, hm, hr, hx, hch⟩ | ⟨hno, rfl, hch⟩)
  · have HS := mkW (st2_conn HH.out.is rfl hm)
    have HR1 := mkW hr
    have HX1 := mkW hx
    have HC1 := mkW hch
    clear hm hr hx hch
    go_wp2_with (go_at_call 69; refine (rNOf W _ g b X qs { cm0 6 with conn := n } nilV nilV HH.out.err HR1.out HX1.out HH.out.ng HH.out.nb).mono ?_)
    rintro e w2 (⟨p2, qs2, m, rfl, rfl, hn2, hm2, hr2, hx2, hch2⟩ | ⟨hno2, rfl, hch2⟩)
    · have HM2 := mkW hm2
      have HX2 := mkW hx2
      have HC2 := mkW (HC1.out.trans hch2)
      clear hm2 hr2 hx2 hch2
      go_wp2
      go_end0
      exact Or.inl ⟨⟨6, n, Rq.zero, [], m, []⟩, nilV, nilV, none, none, rfl, wf_cm ⟨by omega, by omega⟩ hn hn2, sz_cm, by simp, by simp, rd_n HS.out (by omega) (by omega) (by omega) (by omega) HM2.out, HX2.out, Own.nil _, OwnV.nil _, (fun x e => by cases e), (fun x e => by cases e), .inl rfl, HC2.out⟩
    · exact ⟨by trivial, Or.inr ⟨noc_n HS.out (by omega) hno2, rfl, HC1.out.trans hch2⟩⟩
  · exact ⟨by trivial, Or.inr ⟨noc_conn HH.out.is rfl hno, rfl, hch⟩⟩
set_option maxHeartbeats 3200000 in
theorem readRawV (W w : World) (line : By) (g b X : Nat) (ps : List By) (h : Rdy W w line g b X 3 ps) :
    Calls Tryz.prog 67 #[.pointer (some ⟨g, 0, none⟩), .pointer (some ⟨X, 0, none⟩)] w (ReadP W w line g X) := by
  have HH := mkW h
  clear h
  go_enter Tryz.func67, Tryz.ntmps67
  go_wp2_with (go_at_call 63; refine (rConnOf W _ g b X ps (cm0 3) nilV nilV HH.out.err HH.out.rd HH.out.bx HH.out.ng HH.out.nb).mono ?_)
  rintro e w1 (⟨p, qs, n, rfl, rfl, hn, hm, hr, hx, hch⟩ | ⟨hno, rfl, hch⟩)
  · have HS := mkW (st2_conn HH.out.is rfl hm)
    have HR1 := mkW hr
    have HX1 := mkW hx
    have HC1 := mkW hch
    clear hm hr hx hch
    go_wp2_with (go_at_call 103; refine (rBytesOf W _ g b qs HH.out.err HR1.out).mono ?_)
    rintro e w2 (⟨p2, qs2, vr, d, r, rfl, rfl, hd, hdl, ho, hrn, hr2, hc2⟩ | ⟨hno2, rfl, hch2⟩)
    · have HD := mkW hd
      have HX2 := mkW (HX1.out.ch hc2 HH.out.ng)
      have HC2 := mkW (HC1.out.trans (hc2.mono (fun k e => .inl e)))
      have HO := mkW ho
      have hsl : ∃ a cap, vr = .slice a d.length cap := by
        rcases ho.2 with ⟨e, e2, _⟩ | ⟨g', cap, _, e, _⟩
        · exact ⟨none, 0, by rw [e]; have := congrArg List.length e2; rw [nats_len] at this; rw [this]; rfl⟩
        · exact ⟨_, cap, by rw [e, nats_len]⟩
      have HRN : Hid (∀ x, r = some x → w.heap.size ≤ x ∧ x ≠ X) := fun x e => by
        have h1 := hrn x e
        have h2 := HX1.out.lt
        exact ⟨Nat.le_trans HC1.out.size h1, by omega⟩
      obtain ⟨a, cap, rfl⟩ := hsl
      have hdl2 : d.length ≤ 4096 := Nat.le_trans hdl (HR1.out.len p2 (by simp))
      have z : w2.cell? ⟨X, 11, none⟩ = some (.slice none 0 0) := HX2.out.c 11 (by simp [cmLst])
      have f := HX2.out.fz 11 (by simp [cmLst])
      clear hd hr2 hc2 ho hrn
      go_wp2
      go_end0
      have hset := HX2.out.set (i := 11) (l' := cmLst ⟨3, n, Rq.zero, d, 0, []⟩ (.slice a d.length cap) nilV) (by simp [cmLst]) (.slice a d.length cap) rfl
      have hch : Ch (· = X) w2 (w2.setCell ⟨X, 11, none⟩ (.slice a d.length cap)) := (Ch.refl _ _).set 11 _ rfl
      exact Or.inl ⟨⟨3, n, Rq.zero, d, 0, []⟩, _, nilV, r, none, rfl, ⟨⟨by show _ ≤ (3 : Int); omega, by show (3 : Int) ≤ _; omega⟩, hn, wf_zero, i64_zero, fun x hx => by cases hx⟩, ⟨by simp [Rq.zero], by simp [Rq.zero], by simp [Rq.zero]⟩, by show d.length ≤ 10000; omega, by simp, rd_raw HS.out HD.out, hset, own_ch HO.out hch (fun x e => (HRN.out x e).2), OwnV.nil _, HRN.out, (fun x e => by cases e), .inr rfl, HC2.out.trans (hch.mono (fun k e => .inr e))⟩
    · exact ⟨by trivial, Or.inr ⟨noc_raw HS.out hno2, rfl, HC1.out.trans (hch2.mono (fun k e => .inl e))⟩⟩
  · exact ⟨by trivial, Or.inr ⟨noc_conn HH.out.is rfl hno, rfl, hch⟩⟩
end Go.Proofs.YtlnppgjppfkocaaGreatDoor.Xs
