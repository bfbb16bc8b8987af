import Derived.Test.YtklfmgkfcacfkaaAlo
namespace Go.Proofs.Ytklfmgkfcacfkaa
open Go.RowKit Plain
set_option linter.unusedVariables false
set_option linter.unusedSimpArgs false

theorem retT {a b : Value} (h : a = b) : Ending.returned (.tuple #[a, .int .i64 0]) = .returned (.tuple #[b, .int .i64 0]) := by rw [h]

set_option maxHeartbeats 400000 in
set_option maxRecDepth 1000000 in
theorem tokensLong (v : Value) (l : List Nat) (w : World) (h : BytesAt w v l) (hl : 4096 < l.length) :
    Calls Try.prog 9 #[v] w fun e w' => e = .returned (.tuple #[.slice none 0 0, .int .i64 2]) ∧ w' = w := by
  obtain ⟨a, cap, rfl, hlc, hcm, hby, hcells⟩ := h
  clear hcells hby
  go_enter Try.func9, Try.ntmps9
  go_wp2
  go_ret2
  exact ⟨rfl, rfl⟩

theorem bytes_none (w : World) (a : Option Addr) (c : Nat) (hc : c ≤ maxLen) : BytesAt w (.slice a 0 c) [] := ⟨a, c, rfl, by simp, hc, by simp, by simp⟩

theorem BytesAt.part {w : World} {b off len cap : Nat} {l : List Nat} (h : BytesAt w (.slice (some ⟨b, off, none⟩) len cap) l) (n m : Nat) (hn : n ≤ m) (hm : m ≤ l.length) : BytesAt w (.slice (some ⟨b, off + n, none⟩) (m - n) (cap - n)) ((l.drop n).take (m - n)) :=
  BytesAt.take (h.dropAt n (by omega)) (m - n) (by rw [List.length_drop]; omega)

/-- The literal that was gathered is appended, if there is one. -/
theorem appendStep (base : Nat) (v u : Value) (l : List Nat) (ts : List Tk) (r : Option Nat) (bg i : Nat) (w : World) (ho : TRow base w v ts r) (hb : base ≤ w.heap.size) (hp : PreP l ts bg) (hlast : ∀ g b, ts.getLast? ≠ some (.lit g b)) (hbest : ∀ j, bg ≤ j → j < i → Best l j 0 0)
    (hbi : bg ≤ i) (hi : i ≤ l.length) (hl : l.length ≤ 4096) (hu : BytesAt w u ((l.drop bg).take (i - bg))) :
    Calls Try.prog 35 #[v, u] w fun e w' => ∃ v' ts' r', e = .returned v' ∧ TRow base w' v' ts' r' ∧ PreP l ts' i ∧ w.grownBy w' r ∧ ts'.length ≤ ts.length + 1 := by
  have hlen : ((l.drop bg).take (i - bg)).length = i - bg := by rw [List.length_take, List.length_drop]; omega
  by_cases h0 : bg = i
  · subst h0
    rw [Nat.sub_self, List.take_zero] at hu
    refine (appendLitNone v u w hu).mono ?_
    rintro e w' ⟨rfl, rfl⟩
    exact ⟨v, ts, r, rfl, ho, hp, ⟨rfl, rfl, rfl, Nat.le_refl _, fun _ _ _ => rfl⟩, by omega⟩
  · have hc := hp.count
    have hne : (l.drop bg).take (i - bg) ≠ [] := List.length_pos_iff.mp (by rw [hlen]; omega)
    refine (appendLit base v u ts r _ w ho hb hu hne (by rw [hlen]; omega) (by omega)).mono ?_
    rintro e w' ⟨v', g, gl, rfl, h1, h2⟩
    refine ⟨v', _, some g, rfl, h1, ?_, h2, by simp⟩
    have := PreP.lit (g := gl) (b := (l.drop bg).take (i - bg)) hp hlast hne (by rw [hlen]; omega) (by rw [hlen]) (fun j h1 h2 => hbest j h1 (by rw [hlen] at h2; omega))
    rwa [hlen, show bg + (i - bg) = i by omega] at this

set_option maxHeartbeats 1000000 in
set_option maxRecDepth 1000000 in
theorem tokensOf (v : Value) (l : List Nat) (w : World) (h : BytesAt w v l) (hl : l.length ≤ 4096) (hne : l ≠ []) :
    Calls Try.prog 9 #[v] w fun e w' => ∃ tv ts r, e = .returned (.tuple #[tv, .int .i64 0]) ∧ PreP l ts l.length ∧ TRow (w.heap.size + 1) w' tv ts r ∧ Below w.heap.size w w' := by
  have HB : Hid (BytesAt w v l) := h
  obtain ⟨a, cap, rfl, hlc, hcm, hby, hcells⟩ := h
  unfold maxLen at hcm
  obtain ⟨b, off, rfl, hc⟩ := hcells hne
  clear hcells hby hc
  have hpos : 0 < l.length := List.length_pos_iff.mpr hne
  go_enter Try.func9, Try.ntmps9
  go_wp2_with (refine wpList_alloc_tab (by with_reducible rfl) (by with_reducible rfl) ?_)
  have HT0 : Hid (TabAt (w.alloc (.cells (Array.replicate 6144 (.int .u16 0)) 46)) w.heap.size (fun _ => 0) (fun _ => 0)) := TabAt.new w _ rfl
  have HB0 : Hid (Below w.heap.size w (w.alloc (.cells (Array.replicate 6144 (.int .u16 0)) 46))) := (Below.refl _ _).alloc (Nat.le_refl _) _
  have HS0 : Hid (w.heap.size + 1 ≤ (w.alloc (.cells (Array.replicate 6144 (.int .u16 0)) 46)).heap.size) := by unfold Hid; simp
  obtain ⟨w0, hw0⟩ : ∃ w0, w.alloc (.cells (Array.replicate 6144 (.int .u16 0)) 46) = w0 := ⟨_, rfl⟩
  rw [hw0] at HT0 HB0 HS0 ⊢
  clear hw0
  go_loopg [5, 6, 7] l.length (fun gk s5 s6 s7 wx => ∃ i bg : Nat, ∃ ts r last ahead, i + gk = l.length ∧ bg ≤ i ∧ s6 = .int .i64 bg ∧ s7 = .int .i64 i ∧ w.heap.size + 1 ≤ wx.heap.size ∧ Hid (TabAt wx w.heap.size last ahead ∧ Tab l i last ahead ∧ TRow (w.heap.size + 1) wx s5 ts r ∧ PreP l ts bg ∧ (∀ g b, ts.getLast? ≠ some (.lit g b)) ∧ (∀ j, bg ≤ j → j < i → Best l j 0 0) ∧ Below w.heap.size w wx))
  case atStart => exact ⟨0, 0, [], none, _, _, by omega, by omega, rfl, rfl, HS0.out, HT0.out, Tab.zero l _, TRow.nil _ _, .nil, by simp, fun j _ hj => by omega, HB0.out⟩
  case round =>
    obtain ⟨i, bg, ts, r, last, ahead, hig, hbi, rfl, rfl, hsz, HI⟩ := hrel
    have hbx : Below w.heap.size w wr := HI.out.2.2.2.2.2.2
    have HBW : Hid (BytesAt wr (.slice (some ⟨b, off, none⟩) l.length cap) l) := HB.out.later hbx
    clear hbx
    cases gk with
    | zero =>
      obtain rfl : i = l.length := by omega
      have HAp : Hid (∀ u, BytesAt wr u ((l.drop bg).take (l.length - bg)) → Calls Try.prog 35 #[u5, u] wr fun e w' => ∃ v' ts' r', e = .returned v' ∧ TRow (w.heap.size + 1) w' v' ts' r' ∧ PreP l ts' l.length ∧ wr.grownBy w' r ∧ ts'.length ≤ ts.length + 1) := fun u hu => by
        obtain ⟨h1, h2, h3, h4, h5, h6, h7⟩ := HI.out
        exact appendStep _ u5 u l ts r bg l.length wr h3 hsz h4 h5 h6 hbi (Nat.le_refl _) hl hu
      have HE : Hid (∀ w' v' ts' r', TRow (w.heap.size + 1) w' v' ts' r' → PreP l ts' l.length → wr.grownBy w' r → ∃ tv ts r, Ending.returned (.tuple #[v', .int .i64 0]) = .returned (.tuple #[tv, .int .i64 0]) ∧ PreP l ts l.length ∧ TRow (w.heap.size + 1) w' tv ts r ∧ Below w.heap.size w w') := fun w' v' ts' r' h1 h2 h3 =>
        ⟨v', ts', r', rfl, h2, h1, HI.out.2.2.2.2.2.2.trans (grow_below h3 (by omega) fun g e => by have := HI.out.2.2.1.rb g e; omega)⟩
      by_cases hbl : bg = l.length
      · subst hbl
        have HU : Hid (∀ a c, c ≤ maxLen → BytesAt wr (.slice a 0 c) ((l.drop l.length).take (l.length - l.length))) := fun a c hc => by rw [Nat.sub_self, List.take_zero]; exact bytes_none _ _ _ hc
        by_cases hcb : cap = l.length
        · subst hcb
          go_wp2_with fail
          refine (HAp.out _ (HU.out _ _ (by unfold maxLen; omega))).mono ?_
          rintro e w' ⟨v', ts', r', rfl, h1, h2, h3, _⟩
          have HF2 : Hid (∃ tv ts r, Ending.returned (.tuple #[v', .int .i64 0]) = .returned (.tuple #[tv, .int .i64 0]) ∧ PreP l ts l.length ∧ TRow (w.heap.size + 1) w' tv ts r ∧ Below w.heap.size w w') := HE.out w' v' ts' r' h1 h2 h3
          clear h1 h2 h3
          go_wp2
          go_ret2
          exact HF2.out
        · go_wp2_with fail
          refine (HAp.out _ (HU.out _ _ (by unfold maxLen; omega))).mono ?_
          rintro e w' ⟨v', ts', r', rfl, h1, h2, h3, _⟩
          have HF2 : Hid (∃ tv ts r, Ending.returned (.tuple #[v', .int .i64 0]) = .returned (.tuple #[tv, .int .i64 0]) ∧ PreP l ts l.length ∧ TRow (w.heap.size + 1) w' tv ts r ∧ Below w.heap.size w w') := HE.out w' v' ts' r' h1 h2 h3
          clear h1 h2 h3
          go_wp2
          go_ret2
          exact HF2.out
      · have hcb : ¬ cap = bg := by omega
        have HU : Hid (BytesAt wr (.slice (some ⟨b, off + bg, none⟩) (l.length - bg) (cap - bg)) ((l.drop bg).take (l.length - bg))) := HBW.out.part bg l.length hbi (Nat.le_refl _)
        go_wp2_with fail
        refine (HAp.out _ HU.out).mono ?_
        rintro e w' ⟨v', ts', r', rfl, h1, h2, h3, _⟩
        have HF := HE.out w' v' ts' r' h1 h2 h3
        have HF2 : Hid (∃ tv ts r, Ending.returned (.tuple #[v', .int .i64 0]) = .returned (.tuple #[tv, .int .i64 0]) ∧ PreP l ts l.length ∧ TRow (w.heap.size + 1) w' tv ts r ∧ Below w.heap.size w w') := HF
        clear HF h1 h2 h3
        go_wp2
        go_ret2
        exact HF2.out
    | succ g =>
      have hil : i < l.length := by omega
      have HL : Hid (Calls Try.prog 33 #[.pointer (some ⟨w.heap.size, 0, none⟩), .slice (some ⟨b, off, none⟩) l.length cap, .int .i64 i] wr fun e w' => ∃ d n q : Nat, Best l i d n ∧ e = .returned (.tuple #[.int .i64 d, .int .i64 n]) ∧ w' = wr.drewN q) :=
        longestAt _ l i w.heap.size last ahead wr HBW.out hl hil HI.out.1 HI.out.2.1
      go_wp2_with fail
      refine HL.out.mono ?_
      rintro e w' ⟨d, n, q, hbest, rfl, rfl⟩
      have HBest : Hid (Best l i d n) := hbest
      have HBW2 : Hid (BytesAt (wr.drewN q) (.slice (some ⟨b, off, none⟩) l.length cap) l) := HBW.out.drewN q
      obtain ⟨W, hW⟩ : ∃ W, wr.drewN q = W := ⟨_, rfl⟩
      have HI2 : Hid (TabAt W w.heap.size last ahead ∧ Tab l i last ahead ∧ TRow (w.heap.size + 1) W u5 ts r ∧ PreP l ts bg ∧ (∀ g b, ts.getLast? ≠ some (.lit g b)) ∧ (∀ j, bg ≤ j → j < i → Best l j 0 0) ∧ Below w.heap.size w W) := by
        obtain ⟨h1, h2, h3, h4, h5, h6, h7⟩ := HI.out
        rw [← hW]
        exact ⟨h1.kept rfl, h2, h3.kept (grow_drewN ⟨rfl, rfl, rfl, Nat.le_refl _, fun _ _ _ => rfl⟩ q) (r' := none) (by simp), h4, h5, h6, below_drewN h7 q⟩
      have hszW : w.heap.size + 1 ≤ W.heap.size := by rw [← hW]; exact hsz
      rw [hW] at HBW2 ⊢
      clear hW HI HBW HL hbest hsz
      have HAd : Hid (∀ W i last ahead, BytesAt W (.slice (some ⟨b, off, none⟩) l.length cap) l → i < l.length → TabAt W w.heap.size last ahead → Calls Try.prog 34 #[.pointer (some ⟨w.heap.size, 0, none⟩), .slice (some ⟨b, off, none⟩) l.length cap, .int .i64 (i : Nat)] W fun e w' => e = .returned (.tuple #[]) ∧ ∃ last' ahead', TabAt w' w.heap.size last' ahead' ∧ (Tab l i last ahead → Tab l (i + 1) last' ahead') ∧ W.grownBy w' (some w.heap.size)) := fun W i last ahead h1 h2 h3 => tableAdd _ l i w.heap.size last ahead W h1 hl h2 h3
      by_cases hn0 : n = 0
      · subst hn0
        obtain rfl : d = 0 := by
          rcases HBest.out with ⟨_, h, _⟩ | ⟨h, _⟩
          · exact h
          · omega
        go_wp2_with fail
        refine (HAd.out W i last ahead HBW2.out hil HI2.out.1).mono ?_
        rintro e w' ⟨rfl, last', ahead', h1, h2, h3⟩
        have hsz' : w.heap.size + 1 ≤ w'.heap.size := Nat.le_trans hszW h3.size
        have HN : Hid (TabAt w' w.heap.size last' ahead' ∧ Tab l (i + 1) last' ahead' ∧ TRow (w.heap.size + 1) w' u5 ts r ∧ PreP l ts bg ∧ (∀ g b, ts.getLast? ≠ some (.lit g b)) ∧ (∀ j, bg ≤ j → j < i + 1 → Best l j 0 0) ∧ Below w.heap.size w w') := by
          obtain ⟨a1, a2, a3, a4, a5, a6, a7⟩ := HI2.out
          refine ⟨h1, h2 a2, a3.kept h3 (by simp), a4, a5, fun j x y => ?_, a7.trans (grow_below h3 (by omega) (by simp))⟩
          by_cases z : j = i
          · subst z; exact HBest.out
          · exact a6 j x (by omega)
        clear h1 h2 h3
        go_wp2
        go_roundg g
        case measure => omega
        case rel => exact ⟨i + 1, bg, ts, r, last', ahead', by omega, by omega, rfl, by go_num, hsz', HN.out⟩
      · have hn5 : 5 ≤ n ∧ n ≤ 258 ∧ i + n ≤ l.length ∧ d ≤ 2048 := by
          rcases HBest.out with ⟨h, _⟩ | ⟨h, h1, h2, _, _, h3, _⟩
          · omega
          · exact ⟨h, h1, h2, h3⟩
        obtain ⟨hn5, hn258, hin, hd2⟩ := hn5
        have hcb : ¬ cap = bg := by omega
        have HU : Hid (BytesAt W (.slice (some ⟨b, off + bg, none⟩) (i - bg) (cap - bg)) ((l.drop bg).take (i - bg))) := HBW2.out.part bg i hbi (by omega)
        have HAp : Hid (∀ u, BytesAt W u ((l.drop bg).take (i - bg)) → Calls Try.prog 35 #[u5, u] W fun e w' => ∃ v' ts' r', e = .returned v' ∧ TRow (w.heap.size + 1) w' v' ts' r' ∧ PreP l ts' i ∧ W.grownBy w' r ∧ ts'.length ≤ ts.length + 1) := fun u hu => by
          obtain ⟨h1, h2, h3, h4, h5, h6, h7⟩ := HI2.out
          exact appendStep _ u5 u l ts r bg i W h3 hszW h4 h5 h6 hbi (by omega) hl hu
        go_wp2_with fail
        refine (HAp.out _ HU.out).mono ?_
        rintro e w1 ⟨v1, ts1, r1, rfl, h1, h2, h3, h4⟩
        have hsz1 : w.heap.size + 1 ≤ w1.heap.size := Nat.le_trans hszW h3.size
        have HN1 : Hid (TabAt w1 w.heap.size last ahead ∧ TRow (w.heap.size + 1) w1 v1 ts1 r1 ∧ PreP l ts1 i ∧ Below w.heap.size w w1) := by
          obtain ⟨a1, a2, a3, a4, a5, a6, a7⟩ := HI2.out
          refine ⟨a1.kept (h3.block _ (by omega) fun e => ?_), h1, h2, a7.trans (grow_below h3 (by omega) fun g e => ?_)⟩
          · have := a3.rb _ e.symm; omega
          · have := a3.rb _ e; omega
        have hts1 : ts1.length ≤ 8192 := by have := h2.count; omega
        clear h1 h2 h3 h4 HAp HU
        go_wp2_with (at_builtin; refine wpList_append_tok _ rfl _ _ rfl _ _ ts1 (.mat d n) r1 rfl rfl ?hOwn ?hSrc ?hLen ?_)
        case hOwn => exact HN1.out.2.1.own.later ((Below.refl _ _).alloc (Nat.le_refl _) _)
        case hSrc => exact src_tok w1 (.mat d n) _ _ _ rfl 28
        case hLen => exact hts1
        intro v2 w2 g2 ho2 hg2 hgr2
        have hsz2 : w.heap.size + 1 ≤ w2.heap.size := by have := hg2.size; simp at this; omega
        have HN2 : Hid (TabAt w2 w.heap.size last ahead ∧ TRow (w.heap.size + 1) w2 v2 (ts1 ++ [.mat d n]) (some g2) ∧ PreP l (ts1 ++ [.mat d n]) (i + n) ∧ Below w.heap.size w w2) := by
          obtain ⟨a1, a2, a3, a4⟩ := HN1.out
          have hgw : w1.grownBy w2 r1 := grow_trans (below_grow ((Below.refl _ _).alloc (Nat.le_refl _) _) r1) hg2 (.inl rfl)
          refine ⟨a1.kept (hgw.block _ (by omega) fun e => ?_), a2.mat hsz1 ho2 hgw ?_, .mat a3 hn5 HBest.out, a4.trans (grow_below hgw (by omega) fun g e => ?_)⟩
          · have := a2.rb _ e.symm; omega
          · rcases hgr2 with h | h
            · exact .inl h
            · right; omega
          · have := a2.rb _ e; omega
        have HTab : Hid (Tab l i last ahead) := HI2.out.2.1
        clear ho2 hg2 hgr2 HN1 HI2
        go_wp2
        go_loopg [7, 43] n (fun gg s7 s43 wx => ∃ k : Nat, ∃ last ahead, k + gg = n ∧ s7 = .int .i64 (i + k : Nat) ∧ s43 = .int .i64 k ∧ w.heap.size + 1 ≤ wx.heap.size ∧ Hid (TabAt wx w.heap.size last ahead ∧ Tab l (i + k) last ahead ∧ TRow (w.heap.size + 1) wx v2 (ts1 ++ [.mat d n]) (some g2) ∧ Below w.heap.size w wx))
        case atStart => exact ⟨0, last, ahead, by omega, rfl, rfl, hsz2, HN2.out.1, HTab.out, HN2.out.2.1, HN2.out.2.2.2⟩
        case round =>
          obtain ⟨k, last3, ahead3, hkg, rfl, rfl, hsz3, HK⟩ := hrel
          cases gk with
          | zero =>
            obtain rfl : k = n := by omega
            go_wp2
            go_roundg (g + 1 - k)
            case measure => omega
            case rel => exact ⟨i + k, i + k, _, some g2, last3, ahead3, by omega, Nat.le_refl _, rfl, rfl, hsz3, HK.out.1, HK.out.2.1, HK.out.2.2.1, HN2.out.2.2.1, by simp, fun j x y => by omega, HK.out.2.2.2⟩
          | succ gg =>
            have hik : i + k < l.length := by omega
            have HBx : Hid (BytesAt wr (.slice (some ⟨b, off, none⟩) l.length cap) l) := HB.out.later HK.out.2.2.2
            go_wp2_with fail
            refine (HAd.out wr (i + k) last3 ahead3 HBx.out hik HK.out.1).mono ?_
            rintro e w' ⟨rfl, last', ahead', h1, h2, h3⟩
            have hsz' : w.heap.size + 1 ≤ w'.heap.size := Nat.le_trans hsz3 h3.size
            have HN : Hid (TabAt w' w.heap.size last' ahead' ∧ Tab l (i + (k + 1)) last' ahead' ∧ TRow (w.heap.size + 1) w' v2 (ts1 ++ [.mat d n]) (some g2) ∧ Below w.heap.size w w') := by
              obtain ⟨a1, a2, a3, a4⟩ := HK.out
              exact ⟨h1, h2 a2, a3.kept h3 (by simp), a4.trans (grow_below h3 (by omega) (by simp))⟩
            clear h1 h2 h3
            go_wp2
            go_roundg gg
            case measure => omega
            case rel => exact ⟨k + 1, last', ahead', by omega, by go_num, by go_num, hsz', HN.out⟩
set_option maxHeartbeats 400000 in
set_option maxRecDepth 1000000 in
theorem tokensNil (a : Option Addr) (cap : Nat) (w : World) (hcm : cap ≤ maxLen) :
    Calls Try.prog 9 #[.slice a 0 cap] w fun e w' => e = .returned (.tuple #[.slice none 0 0, .int .i64 0]) ∧ Below w.heap.size w w' := by
  have hle := hcm
  unfold maxLen at hcm
  have HC : Hid (∀ w u c, c ≤ maxLen → Calls Try.prog 35 #[.slice none 0 0, .slice u 0 c] w fun e w' => e = .returned (.slice none 0 0) ∧ w' = w) := fun w u c hc => appendLitNone _ _ w (bytes_none w u c hc)
  have HB : Hid (Below w.heap.size w (w.alloc (.cells (Array.replicate 6144 (.int .u16 0)) 46))) := (Below.refl _ _).alloc (Nat.le_refl _) _
  cases a with
  | none =>
    go_enter Try.func9, Try.ntmps9
    go_wp2_with (refine wpList_alloc_tab (by with_reducible rfl) (by with_reducible rfl) ?_)
    refine wp_loop_rounds 1 ?_
    rw [rounds_succ]
    go_wp2_with fail
    refine (HC.out _ _ _ hle).mono ?_
    rintro e w' ⟨rfl, rfl⟩
    go_wp2
    go_ret2
    exact ⟨rfl, HB.out⟩
  | some x =>
    by_cases h0 : cap = 0
    · subst h0
      go_enter Try.func9, Try.ntmps9
      go_wp2_with (refine wpList_alloc_tab (by with_reducible rfl) (by with_reducible rfl) ?_)
      refine wp_loop_rounds 1 ?_
      rw [rounds_succ]
      go_wp2_with fail
      refine (HC.out _ _ _ (Nat.zero_le _)).mono ?_
      rintro e w' ⟨rfl, rfl⟩
      go_wp2
      go_ret2
      exact ⟨rfl, HB.out⟩
    · go_enter Try.func9, Try.ntmps9
      go_wp2_with (refine wpList_alloc_tab (by with_reducible rfl) (by with_reducible rfl) ?_)
      refine wp_loop_rounds 1 ?_
      rw [rounds_succ]
      go_wp2_with fail
      refine (HC.out _ _ _ hle).mono ?_
      rintro e w' ⟨rfl, rfl⟩
      go_wp2
      go_ret2
      exact ⟨rfl, HB.out⟩

theorem tokensAny (v : Value) (l : List Nat) (w : World) (h : BytesAt w v l) (hl : l.length ≤ 4096) :
    Calls Try.prog 9 #[v] w fun e w' => ∃ tv ts r, e = .returned (.tuple #[tv, .int .i64 0]) ∧ PreP l ts l.length ∧ TRow (w.heap.size + 1) w' tv ts r ∧ Below w.heap.size w w' := by
  by_cases hne : l = []
  · subst hne
    obtain ⟨a, cap, rfl, hlc, hcm, hby, hcells⟩ := h
    refine (tokensNil a cap w hcm).mono ?_
    rintro e w' ⟨rfl, hb⟩
    exact ⟨_, [], none, rfl, .nil, TRow.nil _ _, hb⟩
  · exact tokensOf v l w h hl hne
end Go.Proofs.Ytklfmgkfcacfkaa
