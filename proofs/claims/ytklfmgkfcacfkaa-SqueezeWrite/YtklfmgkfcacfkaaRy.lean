import Derived.Test.YtklfmgkfcacfkaaRx
namespace Go.Proofs.Ytklfmgkfcacfkaa
open Go.RowKit Plain
set_option linter.unusedVariables false
set_option linter.unusedSimpArgs false

set_option maxHeartbeats 1000000 in
set_option maxRecDepth 1000000 in
theorem readBad (v : Value) (l : List Nat) (w : World) (h : BytesAt w v l) (hbad : (rd l).2.2 ≠ 0 ∨ 4096 < (rd l).1) :
    Calls Try.prog 31 #[v] w fun e w' => e = .returned (.tuple #[.slice none 0 0, .int .i64 20]) ∧ w' = w := by
  have HC : Hid (Calls Try.prog 48 #[v] w fun e w' => e = .returned (.tuple #[.int .u64 (rd l).1, .int .i64 (rd l).2.1, .int .i64 (rd l).2.2]) ∧ w' = w) := readUvarint v l w h
  have hby := h.byte
  obtain ⟨a, cap, rfl, hlc, hcm, -, -⟩ := h
  by_cases herr : (rd l).2.2 = 0
  · obtain ⟨k, hk64, hrd, -, hul⟩ := rd_ok l hby herr
    have hk : 4096 < k := by rw [hrd] at hbad; simp at hbad; exact hbad
    obtain ⟨U, hU⟩ : ∃ U, (uv k).length = U := ⟨_, rfl⟩
    rw [hrd, hU] at HC
    clear hrd hbad herr hby hU hul
    go_enter Try.func31, Try.ntmps31
    go_wp2_with fail
    refine HC.out.mono ?_
    rintro e w1 ⟨rfl, rfl⟩
    go_wp2
    go_ret2
    exact ⟨rfl, rfl⟩
  · have hr3 : rd l = (0, 0, 10) ∨ rd l = (0, 0, 11) := rd_refused l 0 0 herr
    clear hbad herr hby
    rcases hr3 with hr3 | hr3
    all_goals
      rw [hr3] at HC
      clear hr3
      go_enter Try.func31, Try.ntmps31
      go_wp2_with fail
      refine HC.out.mono ?_
      rintro e w1 ⟨rfl, rfl⟩
      go_wp2
      go_ret2
      exact ⟨rfl, rfl⟩

theorem src_tok' (w : World) (S : Nat) (hS : w.heap.size = S) (t : Tk) (c0 c1 c2 : Value) (hc : t.cells = [c0, c1, c2]) (ty : TypeId) : Src Try.prog 3 23 (.slice (some ⟨S, 0, none⟩) 1 1) 1 t.cells (w.alloc (.cells #[c0, c1, c2] ty)) := by
  subst hS; exact src_tok w t c0 c1 c2 hc ty

theorem set3_cells {w : World} {B : Nat} {a b c x y z : Value} (h0 : w.cell? ⟨B, 0, none⟩ = some a) (h1 : w.cell? ⟨B, 1, none⟩ = some b) (h2 : w.cell? ⟨B, 2, none⟩ = some c) :
    (((w.setCell ⟨B, 0, none⟩ x).setCell ⟨B, 1, none⟩ y).setCell ⟨B, 2, none⟩ z).cell? ⟨B, 0, none⟩ = some x ∧ (((w.setCell ⟨B, 0, none⟩ x).setCell ⟨B, 1, none⟩ y).setCell ⟨B, 2, none⟩ z).cell? ⟨B, 1, none⟩ = some y ∧ (((w.setCell ⟨B, 0, none⟩ x).setCell ⟨B, 1, none⟩ y).setCell ⟨B, 2, none⟩ z).cell? ⟨B, 2, none⟩ = some z := by
  refine ⟨?_, ?_, ?_⟩
  · rw [World.cell?_setCell_other _ _ _ _ (by simp), World.cell?_setCell_other _ _ _ _ (by simp), World.cell?_setCell_same _ _ _ h0]
  · rw [World.cell?_setCell_other _ _ _ _ (by simp)]
    obtain ⟨u, hu⟩ := cell?_setCell_some (p := ⟨B, 0, none⟩) (x := x) h1
    rw [World.cell?_setCell_same _ _ _ hu]
  · obtain ⟨u, hu⟩ := cell?_setCell_some (p := ⟨B, 0, none⟩) (x := x) h2
    obtain ⟨u', hu'⟩ := cell?_setCell_some (p := ⟨B, 1, none⟩) (x := y) hu
    rw [World.cell?_setCell_same _ _ _ hu']

theorem tk_shape (t : Tk) : ∃ x1 x2 x3 d n, t.val = .agg #[.slice x1 x2 x3, .int .i64 d, .int .i64 n] ∧ t.cells = [.slice x1 x2 x3, .int .i64 d, .int .i64 n] := by
  cases t using Tk.elim with
  | lit g l => exact ⟨_, _, _, _, _, rfl, rfl⟩
  | mat d n => exact ⟨_, _, _, _, _, rfl, rfl⟩

theorem tk_ok {w : World} {t : Tk} (hf : t.fits) (h : ∀ gl l, t = .lit gl l → BytesAt w (.slice (some ⟨gl, 0, none⟩) l.length l.length) l) : t.g.ok w := by
  cases t using Tk.elim with
  | lit g l => exact ⟨h g l rfl, by simp only [Tk.fits_lit, Tk.fits_mat] at hf; simp only [Tk.g_lit, Tk.g_mat]; omega, by simp [Tk.g_lit, Tk.g_mat], by simp [Tk.g_lit, Tk.g_mat], by simp [Tk.g_lit, Tk.g_mat], by simp [Tk.g_lit, Tk.g_mat]⟩
  | mat d n =>
    simp only [Tk.fits_lit, Tk.fits_mat] at hf
    exact ⟨BytesAt.nil w, by simp [Tk.g_lit, Tk.g_mat], by simp only [Tk.g_lit, Tk.g_mat]; omega, by simp only [Tk.g_lit, Tk.g_mat]; omega, by simp only [Tk.g_lit, Tk.g_mat]; omega, by simp only [Tk.g_lit, Tk.g_mat]; omega⟩

set_option maxHeartbeats 4000000 in
set_option maxRecDepth 1000000 in
theorem readGood (l : List Nat) (b off cap whole U : Nat) (w : World) (h : BytesAt w (.slice (some ⟨b, off, none⟩) l.length cap) l) (hrd : rd l = (whole, U, 0)) (hU : U = (uv whole).length) (hsp : l = uv whole ++ l.drop U) (hul : U < l.length) (hwh : whole ≤ 4096) :
    Calls Try.prog 31 #[.slice (some ⟨b, off, none⟩) l.length cap] w fun e w' => Below w.heap.size w w' ∧
      ((∃ tv ts r, e = .returned (.tuple #[tv, .int .i64 0]) ∧ Sol l whole ts ∧ TRow w.heap.size w' tv ts r) ∨ (e = .returned (.tuple #[.slice none 0 0, .int .i64 20]) ∧ ∀ k ts, ¬ Sol l k ts)) := by
  have HB : Hid (BytesAt w (.slice (some ⟨b, off, none⟩) l.length cap) l) := h
  have hlc : l.length ≤ cap := by obtain ⟨a', cap', e, h1, _⟩ := h; simp only [Value.slice.injEq] at e; omega
  have hcm : cap ≤ 2 ^ 63 - 1 := by obtain ⟨a', cap', e, _, h1, _⟩ := h; simp only [Value.slice.injEq] at e; unfold maxLen at h1; omega
  have HC : Hid (Calls Try.prog 48 #[.slice (some ⟨b, off, none⟩) l.length cap] w fun e w' => e = .returned (.tuple #[.int .u64 (whole : Nat), .int .i64 (U : Nat), .int .i64 0]) ∧ w' = w) := by
    have := readUvarint _ l w h
    rw [hrd] at this
    exact this
  have HL0 : Hid (Left l (l.drop U) whole 0) := left_start hrd
  have HSP : Hid (l = uv whole ++ l.drop U) := hsp
  clear h hrd hU hsp
  have hlen0 : ∃ L, l.length - U = L := ⟨_, rfl⟩
  obtain ⟨L, hL⟩ := hlen0
  have HLL : Hid (l.length - U = L) := hL
  have hLU : U + L = l.length := by omega
  obtain ⟨N, hN⟩ : ∃ N, l.length = N := ⟨_, rfl⟩
  have HN : Hid (l.length = N) := hN
  rw [hN] at HB HC hlc hul hLU ⊢
  clear hL hN
  have hcU : ¬ cap = U := by omega
  have H9 : Hid (cap - U ≤ cap ∧ L ≤ cap - U ∧ (L ≠ 0 → (some (⟨b, off + U, none⟩ : Addr)) = some ⟨b, off + U, none⟩ ∧ cap - U = cap - U)) := ⟨by omega, by omega, fun _ => ⟨rfl, rfl⟩⟩
  have hNU : N - U = L := by omega
  all_goals
    go_enter Try.func31, Try.ntmps31
    go_wp2_with fail
    refine HC.out.mono ?_
    rintro e w1 ⟨rfl, rfl⟩
    go_wp2
    try rw [hNU]
    clear hNU
    go_loopg [7, 8, 9] L (fun gk s7 s8 s9 wx => ∃ pos n : Nat, ∃ ts r a, ∃ c : Nat, s8 = .int .i64 n ∧ s9 = .slice a gk c ∧ n ≤ whole ∧ c ≤ cap ∧ gk ≤ c ∧ w1.heap.size ≤ wx.heap.size ∧ Hid ((gk ≠ 0 → a = some ⟨b, off + pos, none⟩ ∧ c = cap - pos) ∧ pos + gk = N ∧ TRow w1.heap.size wx s7 ts r ∧ l = uv whole ++ ts.flatMap Tk.enc ++ l.drop pos ∧ tlen (ts.map Tk.g) 0 = (n, 0) ∧ ts.length ≤ n ∧ Left l (l.drop pos) whole n ∧ Below w1.heap.size w1 wx))
    case atStart => exact ⟨U, 0, [], none, some ⟨b, off + U, none⟩, cap - U, rfl, rfl, by omega, H9.out.1, H9.out.2.1, Nat.le_refl _, fun _ => ⟨rfl, rfl⟩, hLU, TRow.nil _ _, by simpa using HSP.out, rfl, by simp, HL0.out, Below.refl _ _⟩
    case round =>
      obtain ⟨pos, n, ts, r, a, c, rfl, rfl, hnw, hcc, hgc, hwr, HI⟩ := hrel
      cases gk with
      | zero =>
        have hpos : pos = N := by have := HI.out.2.1; omega
        have hdrop : l.drop pos = [] := List.drop_eq_nil_of_le (by have := HN.out; omega)
        by_cases hnw2 : n = whole
        · subst hnw2
          have HS : Hid (Sol l n ts) := by
            have h4 := HI.out.2.2.2.1
            rw [hdrop, List.append_nil] at h4
            exact ⟨HI.out.2.2.2.2.1, h4⟩
          clear hdrop hpos
          go_wp2
          go_ret2
          exact ⟨HI.out.2.2.2.2.2.2.2, .inl ⟨_, ts, r, rfl, HS.out, HI.out.2.2.1⟩⟩
        · have HS : Hid (∀ k ts, ¬ Sol l k ts) := by
            have h7 := HI.out.2.2.2.2.2.2.1
            rw [hdrop] at h7
            exact left_end h7 hnw2
          have hne : ((n : Int) != (whole : Int)) = true := by simp; omega
          have hne2 : ((n : Int) == (whole : Int)) = false := by simp; omega
          clear hdrop hpos
          go_wp2
          go_ret2
          exact ⟨HI.out.2.2.2.2.2.2.2, .inr ⟨rfl, HS.out⟩⟩
      | succ g =>
        obtain ⟨ha, hc⟩ := HI.out.1 (by omega)
        subst ha
        have HCc : Hid (c = cap - pos) := hc
        have hposN : pos + (g + 1) = N := HI.out.2.1
        obtain ⟨R, hR⟩ : ∃ R, l.drop pos = R := ⟨_, rfl⟩
        have hRl : R.length = g + 1 := by rw [← hR, List.length_drop, HN.out]; omega
        obtain ⟨rm, hrm⟩ : ∃ rm, whole - n = rm := ⟨_, rfl⟩
        have hrmI : (whole : Int) - (n : Int) = (rm : Int) := by omega
        have HRm : Hid (whole - n = rm) := hrm
        have hrm4 : rm ≤ 4096 := by omega
        have HR : Hid (l.drop pos = R) := hR
        have HWb : Hid (Below wr.heap.size wr (wr.alloc (.cells #[.slice none 0 0, .int .i64 0, .int .i64 0] 28))) := (Below.refl _ _).alloc (Nat.le_refl _) _
        have HRT : Hid (Calls Try.prog 49 #[.slice (some ⟨b, off + pos, none⟩) (g + 1) c, .int .i64 n, .int .i64 rm] (wr.alloc (.cells #[.slice none 0 0, .int .i64 0, .int .i64 0] 28)) fun e w' => ∃ tv u, e = .returned (.tuple #[tv, .int .i64 (u : Nat)]) ∧ Below (wr.alloc (.cells #[.slice none 0 0, .int .i64 0, .int .i64 0] 28)).heap.size (wr.alloc (.cells #[.slice none 0 0, .int .i64 0, .int .i64 0] 28)) w' ∧ ((u = 0 ∧ tv = noTok ∧ NotTold R n rm) ∨ ∃ t, tv = t.val ∧ Told R n rm u t ∧ TNew (wr.alloc (.cells #[.slice none 0 0, .int .i64 0, .int .i64 0] 28)) w' t)) := by
          rw [← hRl]
          refine readTokenOf R b (off + pos) c n rm _ ?_ (by omega) hrm4
          have hB := ((HB.out.later HI.out.2.2.2.2.2.2.2).later HWb.out).dropAt pos (by have := HN.out; omega)
          rw [hR] at hB
          rw [hRl, hc, show g + 1 = N - pos by omega]
          exact hB
        clear hR hrm hc
        go_wp2_with fail
        refine HRT.out.mono ?_
        rintro e w3 ⟨tv, u, rfl, hb3, hres⟩
        have hblk : w3.heap[wr.heap.size]? = some (.cells #[.slice none 0 0, .int .i64 0, .int .i64 0] 28) := by rw [hb3.block _ (by simp)]; exact heap_alloc_new _ _
        obtain ⟨c0, c1, c2, f0, f1, f2⟩ := cells3 hblk
        have hw3 : wr.heap.size + 1 ≤ w3.heap.size := by have := hb3.size; simpa using this
        have HB3 : Hid (Below wr.heap.size wr w3) := HWb.out.trans (hb3.mono (by simp))
        have HG : Hid (∀ x y z, w3.grownBy (((w3.setCell ⟨wr.heap.size, 0, none⟩ x).setCell ⟨wr.heap.size, 1, none⟩ y).setCell ⟨wr.heap.size, 2, none⟩ z) (some wr.heap.size)) := grow_set3 w3 _
        clear hb3 hblk
        rcases hres with ⟨rfl, rfl, hnt⟩ | ⟨t, rfl, hto, htn⟩
        · have HS : Hid (∀ k ts, ¬ Sol l k ts) := by
            have h7 := HI.out.2.2.2.2.2.2.1
            rw [HR.out] at h7
            refine left_stop h7 hwh (by rintro rfl; simp at hRl) ?_
            rw [HRm.out]; exact hnt
          have HBf : Hid (∀ x y z, Below w1.heap.size w1 (((w3.setCell ⟨wr.heap.size, 0, none⟩ x).setCell ⟨wr.heap.size, 1, none⟩ y).setCell ⟨wr.heap.size, 2, none⟩ z)) := fun x y z =>
            HI.out.2.2.2.2.2.2.2.trans ((HB3.out.trans (grow_below (HG.out x y z) (by omega) (by simp))).mono hwr)
          clear hnt
          unfold noTok
          go_wp2
          go_ret2
          exact ⟨HBf.out _ _ _, .inr ⟨rfl, HS.out⟩⟩
        · obtain ⟨x1, x2, x3, dd, nn, hval, hcs⟩ := tk_shape t
          have HTo : Hid (Told R n rm u t) := hto
          have HTn : Hid (TNew (wr.alloc (.cells #[.slice none 0 0, .int .i64 0, .int .i64 0] 28)) w3 t) := htn
          have HVal : Hid (t.g.val = .agg #[.slice x1 x2 x3, .int .i64 dd, .int .i64 nn]) := hval
          have HCs : Hid (t.cells = [.slice x1 x2 x3, .int .i64 dd, .int .i64 nn]) := hcs
          have hu0 : 0 < u := hto.1
          have hug : u ≤ g + 1 := by have := hto.2.1; omega
          have hu1 : ((u : Int) == 0) = false := by simp; omega
          rw [hval]
          have htsl : ts.length ≤ 8192 := by have := HI.out.2.2.2.2.2.1; omega
          have hrlt : ∀ g', r = some g' → g' < wr.heap.size := fun g' e => by have h3 := HI.out.2.2.1.own; rw [e] at h3; exact h3.lt
          have HRT2 : Hid (t.g.right n = true) := hto.2.2.2.1
          have hlen : n + t.len ≤ whole := by have := hto.2.2.2.2; have := HRm.out; omega
          have HFit : Hid (t.fits) := fits_of hto.2.2.2.1 hto.2.2.2.2 hrm4
          clear hval hcs hto htn
          go_wp2_with (at_builtin; refine wpList_append_tok _ rfl _ _ rfl _ _ ts t r rfl rfl ?hOwn ?hSrc ?hLen ?_)
          case hOwn =>
            refine HI.out.2.2.1.own.later ?_
            exact (HB3.out.trans (grow_below (HG.out _ _ _) (by omega) (by simp))).alloc (by simp; omega) _
          case hSrc => exact src_tok' _ _ (by simp) t _ _ _ HCs.out 28
          case hLen => exact htsl
          intro v6 w6 g6 ho6 hg6 hgr6
          have HN6 : Hid (TRow w1.heap.size w6 v6 (ts ++ [t]) (some g6) ∧ Below w1.heap.size w1 w6 ∧ w1.heap.size ≤ w6.heap.size ∧ (w6.cell? ⟨wr.heap.size, 0, none⟩ = some (.slice x1 x2 x3) ∧ w6.cell? ⟨wr.heap.size, 1, none⟩ = some (.int .i64 dd) ∧ w6.cell? ⟨wr.heap.size, 2, none⟩ = some (.int .i64 nn))) := by
            have hg4 := HG.out (.slice x1 x2 x3) (.int .i64 dd) (.int .i64 nn)
            have hset := set3_cells (x := .slice x1 x2 x3) (y := .int .i64 dd) (z := .int .i64 nn) c0 c1 c2
            have hszE : (((w3.setCell ⟨wr.heap.size, 0, none⟩ (.slice x1 x2 x3)).setCell ⟨wr.heap.size, 1, none⟩ (.int .i64 dd)).setCell ⟨wr.heap.size, 2, none⟩ (.int .i64 nn)).heap.size = w3.heap.size := by simp
            generalize ((w3.setCell ⟨wr.heap.size, 0, none⟩ (.slice x1 x2 x3)).setCell ⟨wr.heap.size, 1, none⟩ (.int .i64 dd)).setCell ⟨wr.heap.size, 2, none⟩ (.int .i64 nn) = W4 at *
            have hs4 : W4.heap.size + 1 = (W4.alloc (.cells #[.slice x1 x2 x3, .int .i64 dd, .int .i64 nn] 28)).heap.size := by simp
            have hb4 : Below wr.heap.size wr W4 := HB3.out.trans (grow_below hg4 (by omega) (by simp))
            have hsz4 := hg4.size
            have hk5 : Below wr.heap.size wr (W4.alloc (.cells #[.slice x1 x2 x3, .int .i64 dd, .int .i64 nn] 28)) := hb4.alloc hb4.size _
            have ha5 : Below W4.heap.size W4 (W4.alloc (.cells #[.slice x1 x2 x3, .int .i64 dd, .int .i64 nn] 28)) := (Below.refl _ _).alloc (Nat.le_refl _) _
            have hb5 := HI.out.2.2.2.2.2.2.2.trans (hk5.mono hwr)
            have hb6 := hb5.trans (grow_below hg6 (by omega) (fun g' e => HI.out.2.2.1.rb g' e))
            have hcell : ∀ o, w6.cell? ⟨wr.heap.size, o, none⟩ = W4.cell? ⟨wr.heap.size, o, none⟩ := fun o => by
              rw [World.cell?_of_block (w := W4.alloc (.cells #[.slice x1 x2 x3, .int .i64 dd, .int .i64 nn] 28)) (a := ⟨wr.heap.size, o, none⟩) (hg6.block wr.heap.size (by omega) (fun e => by have := hrlt _ e.symm; omega)), ha5.cell (p := ⟨wr.heap.size, o, none⟩) (by show wr.heap.size < W4.heap.size; omega)]
            refine ⟨TRow.push HI.out.2.2.1 hwr hk5 (fun gl l' e => ?_) ho6 hg6 ?_, hb6, hb6.size, by rw [hcell]; exact hset.1, by rw [hcell]; exact hset.2.1, by rw [hcell]; exact hset.2.2⟩
            · obtain ⟨q1, q2, q3⟩ := HTn.out gl l' e
              have q2' : wr.heap.size + 1 ≤ gl := by simpa using q2
              exact ⟨q1, by omega, (q3.kept hg4 (.inr (by simp; omega))).later ha5⟩
            · rcases hgr6 with h | h
              · exact .inl h
              · right; omega
          clear ho6 hg6 hgr6
          obtain ⟨d0, d1, d2⟩ := HN6.out.2.2.2
          have HAd : Hid (Calls Try.prog 38 #[.agg #[.slice x1 x2 x3, .int .i64 dd, .int .i64 nn]] w6 fun e w' => e = .returned (.int .i64 (t.len : Nat)) ∧ Below w6.heap.size w6 w') := by
            have := addedOf t.g n w6 (tk_ok HFit.out (fun gl l' e => (HN6.out.1.lits gl l' (by rw [← e]; simp)).2.2.2.bytes)) HRT2.out
            rw [HVal.out, tk_add] at this
            exact this
          go_wp2_with fail
          refine HAd.out.mono ?_
          rintro e w7 ⟨rfl, hb7⟩
          have HN7 : Hid (pos + u + (g + 1 - u) = N ∧ TRow w1.heap.size w7 v6 (ts ++ [t]) (some g6) ∧ l = uv whole ++ (ts ++ [t]).flatMap Tk.enc ++ l.drop (pos + u) ∧ tlen ((ts ++ [t]).map Tk.g) 0 = (n + t.len, 0) ∧ (ts ++ [t]).length ≤ n + t.len ∧ Left l (l.drop (pos + u)) whole (n + t.len) ∧ Below w1.heap.size w1 w7) := by
            obtain ⟨z1, z2, z3, z4, z5, z6, z7, z8⟩ := HI.out
            have hto := HTo.out
            have hdr : l.drop (pos + u) = R.drop u := by rw [← HR.out, List.drop_drop]
            rw [HR.out] at z4 z7
            refine ⟨by omega, HN6.out.1.kept (below_grow hb7 none) (by simp), ?_, ?_, ?_, ?_, HN6.out.2.1.trans (hb7.mono HN6.out.2.2.1)⟩
            · rw [hdr, List.flatMap_append, List.flatMap_singleton, ← hto.2.2.1, List.append_assoc, List.append_assoc, List.take_append_drop, ← List.append_assoc]
              exact z4
            · rw [List.map_append, List.map_singleton]
              have := tlen_snoc z5 HRT2.out (by rw [tk_add]; omega)
              rwa [tk_add] at this
            · have := tk_pos HRT2.out
              rw [List.length_append, List.length_singleton]; omega
            · rw [hdr]
              exact left_step z7 hwh hnw (by rw [HRm.out]; exact hto)
          have hs7 : w1.heap.size ≤ w7.heap.size := HN7.out.2.2.2.2.2.2.size
          clear hb7
          obtain ⟨tl, htl⟩ : ∃ tl, t.len = tl := ⟨_, rfl⟩
          rw [htl] at HN7 hlen ⊢
          clear htl
          have HCU : Hid (c = cap - pos) := HCc.out
          by_cases hcu : c = u
          · subst hcu
            go_wp2
            go_roundg 0
            case measure => omega
            case rel => exact ⟨pos + c, n + tl, ts ++ [t], some g6, _, _, by go_num, rfl, hlen, by omega, Nat.le_refl _, hs7, fun h => absurd rfl h, by have := HN7.out.1; omega, HN7.out.2⟩
          · go_wp2
            go_roundg (g + 1 - u)
            case measure => omega
            case rel => exact ⟨pos + u, n + tl, ts ++ [t], some g6, _, _, by go_num, rfl, hlen, by omega, by omega, hs7, fun _ => ⟨by rw [Nat.add_assoc], by have := HCU.out; omega⟩, HN7.out⟩

set_option maxHeartbeats 1000000 in
set_option maxRecDepth 1000000 in
theorem readEmpty (l : List Nat) (b off cap whole : Nat) (w : World) (h : BytesAt w (.slice (some ⟨b, off, none⟩) l.length cap) l) (hrd : rd l = (whole, l.length, 0)) (hsp : l = uv whole ++ l.drop l.length) (hwh : whole ≤ 4096) :
    Calls Try.prog 31 #[.slice (some ⟨b, off, none⟩) l.length cap] w fun e w' => Below w.heap.size w w' ∧
      ((∃ tv ts r, e = .returned (.tuple #[tv, .int .i64 0]) ∧ Sol l whole ts ∧ TRow w.heap.size w' tv ts r) ∨ (e = .returned (.tuple #[.slice none 0 0, .int .i64 20]) ∧ ∀ k ts, ¬ Sol l k ts)) := by
  have hlc : l.length ≤ cap := by obtain ⟨a', cap', e, h1, _⟩ := h; simp only [Value.slice.injEq] at e; omega
  have hcm : cap ≤ 2 ^ 63 - 1 := by obtain ⟨a', cap', e, _, h1, _⟩ := h; simp only [Value.slice.injEq] at e; unfold maxLen at h1; omega
  have HC : Hid (Calls Try.prog 48 #[.slice (some ⟨b, off, none⟩) l.length cap] w fun e w' => e = .returned (.tuple #[.int .u64 (whole : Nat), .int .i64 (l.length : Nat), .int .i64 0]) ∧ w' = w) := by
    have := readUvarint _ l w h
    rw [hrd] at this
    exact this
  have HL0 : Hid (Left l [] whole 0) := by
    have := left_start hrd
    rwa [List.drop_length] at this
  have HSP : Hid (l = uv whole) := by rw [List.drop_length, List.append_nil] at hsp; exact hsp
  clear h hrd hsp
  by_cases h0 : whole = 0
  · subst h0
    have HS : Hid (Sol l 0 []) := ⟨rfl, by rw [HSP.out]; simp [blk]⟩
    by_cases hcU : cap = l.length
    · subst hcU
      go_enter Try.func31, Try.ntmps31
      go_wp2_with fail
      refine HC.out.mono ?_
      rintro e w1 ⟨rfl, rfl⟩
      go_wp2
      refine wp_loop_rounds 1 ?_
      rw [rounds_succ]
      go_wp2
      go_ret2
      exact ⟨Below.refl _ _, .inl ⟨_, [], none, rfl, HS.out, TRow.nil _ _⟩⟩
    · go_enter Try.func31, Try.ntmps31
      go_wp2_with fail
      refine HC.out.mono ?_
      rintro e w1 ⟨rfl, rfl⟩
      go_wp2
      refine wp_loop_rounds 1 ?_
      rw [rounds_succ]
      go_wp2
      go_ret2
      exact ⟨Below.refl _ _, .inl ⟨_, [], none, rfl, HS.out, TRow.nil _ _⟩⟩
  · have HS : Hid (∀ k ts, ¬ Sol l k ts) := left_end HL0.out (by omega)
    have hne : ((whole : Int) == 0) = false := by simp; omega
    have hne2 : (0 != (whole : Int)) = true := by simp; omega
    have hne3 : ((0 : Int) == (whole : Int)) = false := by simp; omega
    by_cases hcU : cap = l.length
    · subst hcU
      go_enter Try.func31, Try.ntmps31
      go_wp2_with fail
      refine HC.out.mono ?_
      rintro e w1 ⟨rfl, rfl⟩
      go_wp2
      refine wp_loop_rounds 1 ?_
      rw [rounds_succ]
      go_wp2
      go_ret2
      exact ⟨Below.refl _ _, .inr ⟨rfl, HS.out⟩⟩
    · go_enter Try.func31, Try.ntmps31
      go_wp2_with fail
      refine HC.out.mono ?_
      rintro e w1 ⟨rfl, rfl⟩
      go_wp2
      refine wp_loop_rounds 1 ?_
      rw [rounds_succ]
      go_wp2
      go_ret2
      exact ⟨Below.refl _ _, .inr ⟨rfl, HS.out⟩⟩

theorem readAny (v : Value) (l : List Nat) (w : World) (h : BytesAt w v l) :
    Calls Try.prog 31 #[v] w fun e w' => Below w.heap.size w w' ∧
      ((∃ tv ts r n, e = .returned (.tuple #[tv, .int .i64 0]) ∧ Sol l n ts ∧ TRow w.heap.size w' tv ts r) ∨ (e = .returned (.tuple #[.slice none 0 0, .int .i64 20]) ∧ ∀ k ts, ¬ Sol l k ts)) := by
  by_cases hbad : (rd l).2.2 ≠ 0 ∨ 4096 < (rd l).1
  · refine (readBad v l w h hbad).mono ?_
    rintro e w' ⟨rfl, rfl⟩
    exact ⟨Below.refl _ _, .inr ⟨rfl, left_none hbad⟩⟩
  · have h0 : (rd l).2.2 = 0 := by omega
    obtain ⟨k, _, hrd, hsp, hul⟩ := rd_ok l h.byte h0
    have hk : k ≤ 4096 := by rw [hrd] at hbad; simp at hbad; exact hbad
    have hne : l ≠ [] := by rintro rfl; have := uv_pos k; simp at hul; rw [hul] at this; simp at this
    obtain ⟨a, cap, rfl, h1, h2, h3, h4⟩ := h
    obtain ⟨b, off, rfl, h5⟩ := h4 hne
    have hB : BytesAt w (.slice (some ⟨b, off, none⟩) l.length cap) l := ⟨_, cap, rfl, h1, h2, h3, fun _ => ⟨b, off, rfl, h5⟩⟩
    by_cases hlt : (uv k).length < l.length
    · refine (readGood l b off cap k _ w hB hrd rfl hsp hlt hk).mono ?_
      rintro e w' ⟨q1, q2⟩
      refine ⟨q1, ?_⟩
      rcases q2 with ⟨tv, ts, r, e, s, t⟩ | q2
      · exact .inl ⟨tv, ts, r, k, e, s, t⟩
      · exact .inr q2
    · have hU : (uv k).length = l.length := by omega
      rw [hU] at hrd hsp
      refine (readEmpty l b off cap k w hB hrd hsp hk).mono ?_
      rintro e w' ⟨q1, q2⟩
      refine ⟨q1, ?_⟩
      rcases q2 with ⟨tv, ts, r, e, s, t⟩ | q2
      · exact .inl ⟨tv, ts, r, k, e, s, t⟩
      · exact .inr q2
end Go.Proofs.Ytklfmgkfcacfkaa
