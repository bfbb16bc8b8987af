import Derived.Test.YtgpmhflndcppeaaQp14
import Derived.BigQuiet
/-! The law on the past: lead. -/
namespace Go.Proofs.Ytgpmhflndcppeaa
open Go.RowKit Go.Maps Plain
set_option linter.unusedVariables false
set_option linter.unusedSimpArgs false

theorem PaM.lastRow {w : World} {gp : Nat} {p : Ps} {B : Nat → Prop} {vF vG vD : Value} {rF rG rD : Option Nat} {fv gv dv : List Value} {rf rg : Nat → Option Nat} {sv tv : Nat → List Value} (h : PaM w gp p B vF vG vD rF rG rD fv gv dv rf rg sv tv) {j : Nat} (hj : j < p.dirs.length) :
    ∃ gD capD a c r, vD = .slice (some ⟨gD, 0, none⟩) p.dirs.length capD ∧ w.cell? ⟨gD, j, none⟩ = some (.slice a (p.dirs.getD j []).length c) ∧ OwnNw w (.slice a (p.dirs.getD j []).length c) ((p.dirs.getD j []).map nwOf) r ∧ ∀ g, r = some g → B g := by
  obtain ⟨aD, cD, e, -, -⟩ := h.D.shape
  rw [h.dl] at e
  subst e
  have hjd : j < dv.length := by rw [h.dl]; exact hj
  obtain ⟨r, h1, h2⟩ := h.dn j hjd
  obtain ⟨a, c, e2, -, -⟩ := h1.shape
  rw [List.length_map] at e2
  have hget : dv[j]? = some (dv.getD j undef) := by rw [List.getD_eq_getElem?_getD, List.getElem?_eq_getElem hjd]; rfl
  obtain ⟨g, e3, e4, e5⟩ := h.D.get hget
  rw [e2] at e5 h1
  exact ⟨g, cD, a, c, r, by rw [e4], e5, h1, h2⟩
theorem row_nw {w : World} {a : Option Addr} {n c : Nat} {l : List (Nm × Nat)} {r : Option Nat} (h : OwnNw w (.slice a n c) (l.map nwOf) r) {i : Nat} (hi : i < l.length) : ∃ g, a = some ⟨g, 0, none⟩ ∧ r = some g ∧ w.cell? ⟨g, i * 2, none⟩ = some (.string (str (l.getD i ([], 0)).1)) ∧ w.cell? ⟨g, i * 2 + 1, none⟩ = some (.int .i64 ((l.getD i ([], 0)).2 : Int)) := by
  have hne : l.map nwOf ≠ [] := fun e => by have := congrArg List.length e; simp at this; rw [this] at hi; simp at hi
  have hc0 := h
  rcases h with ⟨-, e, -⟩ | ⟨g, cap, e1, e2, -⟩
  · exact absurd e hne
  · injection e2 with e3 e4 e5
    subst e1
    have hc := hc0.at (j := i) (by simpa using hi)
    have e6 : (l.map nwOf).getD i Nw.zero = nwOf (l.getD i ([], 0)) := by
      rw [List.getD_eq_getElem?_getD, List.getElem?_map, List.getD_eq_getElem?_getD, List.getElem?_eq_getElem hi]; rfl
    rw [e6] at hc
    exact ⟨g, e3, rfl, hc.c0, hc.c1⟩
theorem txt_eq {a : Nm} {s : ByteArray} : ((str a).toList == s.toList) = (a == s.data.toList) := by
  rw [ByteArray.toList_eq, ByteArray.toList_eq, str_list]
theorem lead_step {l : List (Nm × Nat)} {s : Nm} {i : Nat} (h : ∀ j, j < i → (l.getD j ([], 0)).1 ≠ s) : (i < l.length → (l.getD i ([], 0)).1 = s → leadL l s = ((l.getD i ([], 0)).2 : Int)) ∧ (l.length ≤ i → leadL l s = -1) := by
  constructor
  · intro hi e
    unfold leadL
    have : l.find? (fun x => x.1 == s) = some (l.getD i ([], 0)) := by
      rw [List.find?_eq_some_iff_getElem]
      refine ⟨by rw [e]; simp, i, hi, by rw [List.getD_eq_getElem?_getD, List.getElem?_eq_getElem hi]; rfl, fun j hj => ?_⟩
      have := h j hj
      rw [List.getD_eq_getElem?_getD, List.getElem?_eq_getElem (by omega)] at this
      simpa using this
    rw [this]; rfl
  · intro hi
    unfold leadL
    have : l.find? (fun x => x.1 == s) = none := by
      rw [List.find?_eq_none]
      intro x hx
      obtain ⟨j, hj, e⟩ := List.getElem_of_mem hx
      have := h j (by omega)
      rw [List.getD_eq_getElem?_getD, List.getElem?_eq_getElem hj] at this
      rw [← e]
      simpa using this
    rw [this]; rfl
set_option maxHeartbeats 4000000 in
set_option maxRecDepth 100000 in
theorem leadOf {w : World} {gp : Nat} {p : Ps} {B : Nat → Prop} {vF vG vD : Value} {rF rG rD : Option Nat} {fv gv dv : List Value} {rf rg : Nat → Option Nat} {sv tv : Nat → List Value} (h : PaM w gp p B vF vG vD rF rG rD fv gv dv rf rg sv tv) (h1 : 1 ≤ p.dirs.length) (s : ByteArray) (hl : p.last.length ≤ 2199023255000) (hdl : p.dirs.length ≤ 4398046511103) :
    Calls Try.prog 30 #[.pointer (some ⟨gp, 0, none⟩), .string s] w fun e w' => e = .returned (.int .i64 (leadL p.last s.data.toList)) ∧ ∃ n, w' = w.drewN n := by
  obtain ⟨gD, capD, a, c, r, rfl, hcd, hrow, -⟩ := h.lastRow (j := p.dirs.length - 1) (by omega)
  have c2 := h.c2
  have hlast : p.dirs.getD (p.dirs.length - 1) [] = p.last := rfl
  rw [hlast] at hcd hrow
  have HR : Hid (OwnNw w (.slice a p.last.length c) (p.last.map nwOf) r) := hrow
  clear hrow h hlast
  generalize p.last = l at *
  generalize p.dirs.length = N at *
  have hN1 : (N : Int) - 1 = ((N - 1 : Nat) : Int) := by omega
  have hNl : ((N - 1 : Nat) : Int) < (N : Int) := by omega
  go_enter Try.func30, Try.ntmps30
  go_wp2
  go_quiet (fail)
  have hbq : Below w.heap.size w (w.drewN nq) := below_drewN (Below.refl _ _) nq
  have HRQ : Hid (OwnNw (w.drewN nq) (.slice a l.length c) (l.map nwOf) r) := HR.out.later hbq
  clear hbq
  go_wp2
  go_loopw [6] (fun i wr => ∃ k : Nat, k ≤ l.length ∧ i = .int .i64 k ∧ Hid (∃ n, wr = w.drewN n) ∧ Hid (∀ j, j < k → (l.getD j ([], 0)).1 ≠ s.data.toList)) (fun i _ => l.length - (intOf i).toNat)
  case atStart => exact ⟨0, by omega, rfl, ⟨_, rfl⟩, fun j hj => by omega⟩
  case round =>
    obtain ⟨k, hk, rfl, HD, HB⟩ := hrel
    obtain ⟨n, hn⟩ := HD.out
    by_cases hlt : k < l.length
    · have hki : (k : Int) < (l.length : Int) := by omega
      obtain ⟨g, rfl, rfl, d0, d1⟩ := row_nw (HR.out.later (below_drewN (Below.refl _ _) n)) hlt
      rw [← hn] at d0 d1
      by_cases he : (l.getD k ([], 0)).1 = s.data.toList
      · have HL : Hid (leadL l s.data.toList = ((l.getD k ([], 0)).2 : Int)) := (lead_step HB.out).1 hlt he
        have hbe : ((str (l.getD k ([], 0)).1).toList == s.toList) = true := by rw [txt_eq]; simpa using he
        have HD2 : Hid (∃ n, wr = w.drewN n) := ⟨n, hn⟩
        clear hn he
        generalize l.getD k ([], 0) = x at d0 d1 hbe HL
        go_wp2
        go_ret
        exact ⟨by rw [HL.out]; try rfl, HD2.out⟩
      · have hbe : ((str (l.getD k ([], 0)).1).toList == s.toList) = false := by rw [txt_eq]; simpa using he
        have HB2 : Hid (∀ j, j < k + 1 → (l.getD j ([], 0)).1 ≠ s.data.toList) := fun j hj => by
          by_cases e : j = k
          · subst e; exact he
          · exact HB.out j (by omega)
        have HD2 : Hid (∃ n, wr = w.drewN n) := ⟨n, hn⟩
        clear hn he
        generalize l.getD k ([], 0) = x at d0 d1 hbe
        go_wp2
        go_roundw
        case rel => exact ⟨k + 1, by omega, by go_num, HD2, HB2⟩
        case measure => simp [intOf]; omega
    · have HL : Hid (leadL l s.data.toList = -1) := (lead_step HB.out).2 (by omega)
      have HD2 : Hid (∃ n, wr = w.drewN n) := ⟨n, hn⟩
      clear hn
      go_wp2
      go_ret
      exact ⟨by rw [HL.out]; try rfl, HD2.out⟩
end Go.Proofs.Ytgpmhflndcppeaa

/-! The law on the past: left. -/
namespace Go.Proofs.Ytgpmhflndcppeaa
open Go.RowKit Go.Maps Plain
set_option linter.unusedVariables false
set_option linter.unusedSimpArgs false

theorem src_nw (W : World) (x : Nw) : Src Try.prog 2 54 (.slice (some ⟨W.heap.size, 0, none⟩) 1 1) [x].length (nwcells [x]) (W.alloc (.cells #[.string x.text, .int .i64 x.file] 83)) :=
  Src.ofSlice _ Try.underlying54 _ 1 1 _ (by rfl) (fun j u hj => by
    rw [WideShapes.add_plain, World.cell?_alloc_at _ _ _ _ rfl, Nat.zero_add]
    rw [← hj]; simp [nwcells, Nw.cells]) (fun u hu => by
    simp [nwcells, Nw.cells] at hu
    rcases hu with rfl | rfl <;> rfl)
/-- A row of names that was made behind world W. -/
structure NwNew (W w : World) (v : Value) (ts : List Nw) (r : Option Nat) : Prop where
  row : OwnNw w v ts r
  new : ∀ g, r = some g → W.heap.size ≤ g
  below : Below W.heap.size W w
theorem NwNew.nil (W : World) : NwNew W W (.slice none 0 0) [] none := ⟨OwnNw.nil _, by simp, Below.refl _ _⟩
theorem NwNew.later {W w w' : World} {v : Value} {ts : List Nw} {r : Option Nat} (h : NwNew W w v ts r) (hb : Below w.heap.size w w') : NwNew W w' v ts r := ⟨h.row.later hb, h.new, h.below.trans (hb.mono h.below.size)⟩
theorem NwNew.app {W w w' : World} {v v' : Value} {ts ts' : List Nw} {r : Option Nat} {g : Nat} (h : NwNew W w v ts r) (ho : OwnNw w' v' ts' (some g)) (hg : w.grownBy w' r) (hr : some g = r ∨ g = w.heap.size) : NwNew W w' v' ts' (some g) := by
  have hs := h.below.size
  refine ⟨ho, fun g' e => ?_, h.below.grown hg h.below.size (fun k e => h.new k e)⟩
  cases e
  rcases hr with e | e
  · exact h.new g e.symm
  · omega
theorem left_take {l : List (Nm × Nat)} {s : Nm} {k : Nat} (h : k < l.length) : leftL (l.take (k + 1)) s = if (l.getD k ([], 0)).1 = s then leftL (l.take k) s else leftL (l.take k) s ++ [l.getD k ([], 0)] := by
  have e : l.getD k ([], 0) = l[k] := by rw [List.getD_eq_getElem?_getD, List.getElem?_eq_getElem h]; rfl
  unfold leftL
  rw [List.take_succ_eq_append_getElem h, List.filter_append, e]
  by_cases hh : l[k].1 = s
  · rw [if_pos hh]; simp [hh]
  · rw [if_neg hh]; simp [hh]
theorem left_len (l : List (Nm × Nat)) (s : Nm) : (leftL l s).length ≤ l.length := List.length_filter_le ..
set_option maxHeartbeats 4000000 in
set_option maxRecDepth 100000 in
theorem leftOf {w : World} {gp : Nat} {p : Ps} {B : Nat → Prop} {vF vG vD : Value} {rF rG rD : Option Nat} {fv gv dv : List Value} {rf rg : Nat → Option Nat} {sv tv : Nat → List Value} (h : PaM w gp p B vF vG vD rF rG rD fv gv dv rf rg sv tv) (h1 : 1 ≤ p.dirs.length) (s : ByteArray) (hl : p.last.length ≤ 2199023255000) (hdl : p.dirs.length ≤ 4398046511103) :
    Calls Try.prog 31 #[.pointer (some ⟨gp, 0, none⟩), .string s] w fun e w' => ∃ v r, e = .returned v ∧ NwNew w w' v ((leftL p.last s.data.toList).map nwOf) r := by
  obtain ⟨gD, capD, a, c, r, rfl, hcd, hrow, -⟩ := h.lastRow (j := p.dirs.length - 1) (by omega)
  have c2 := h.c2
  have hlast : p.dirs.getD (p.dirs.length - 1) [] = p.last := rfl
  rw [hlast] at hcd hrow
  have HR : Hid (OwnNw w (.slice a p.last.length c) (p.last.map nwOf) r) := hrow
  clear hrow h hlast
  generalize p.last = l at *
  generalize p.dirs.length = N at *
  have hN1 : (N : Int) - 1 = ((N - 1 : Nat) : Int) := by omega
  have hNl : ((N - 1 : Nat) : Int) < (N : Int) := by omega
  go_enter Try.func31, Try.ntmps31
  go_wp2
  go_quiet (fail)
  have HN0 : Hid (NwNew w (w.drewN nq) (.slice none 0 0) [] none) := (NwNew.nil w).later (below_drewN (Below.refl _ _) nq)
  go_wp2
  go_loopw [6, 7] (fun m i wr => ∃ k : Nat, k ≤ l.length ∧ i = .int .i64 k ∧ Hid (∃ r, NwNew w wr m ((leftL (l.take k) s.data.toList).map nwOf) r)) (fun _ i _ => l.length - (intOf i).toNat)
  case atStart => exact ⟨0, by omega, rfl, ⟨none, HN0.out⟩⟩
  case round =>
    obtain ⟨k, hk, rfl, HK⟩ := hrel
    obtain ⟨r2, hN⟩ := HK.out
    obtain ⟨a2, cap2, rfl, -, -⟩ : ∃ a2 cap2, u6 = .slice a2 ((leftL (l.take k) s.data.toList).map nwOf).length cap2 ∧ True ∧ True := by
      obtain ⟨a2, cap2, e, -, -⟩ := hN.row.shape
      exact ⟨a2, cap2, e, trivial, trivial⟩
    have htl := left_len (l.take k) s.data.toList
    rw [List.length_take] at htl
    have HNN : Hid (NwNew w wr (.slice a2 ((leftL (l.take k) s.data.toList).map nwOf).length cap2) ((leftL (l.take k) s.data.toList).map nwOf) r2) := hN
    clear HK
    by_cases hlt : k < l.length
    · have hki : (k : Int) < (l.length : Int) := by omega
      have HS : Hid (leftL (l.take (k + 1)) s.data.toList = if (l.getD k ([], 0)).1 = s.data.toList then leftL (l.take k) s.data.toList else leftL (l.take k) s.data.toList ++ [l.getD k ([], 0)]) := left_take hlt
      obtain ⟨g, rfl, rfl, d0, d1⟩ := row_nw (HR.out.later hN.below) hlt
      clear hN
      by_cases he : (l.getD k ([], 0)).1 = s.data.toList
      · have hbe : ((str (l.getD k ([], 0)).1).toList == s.toList) = true := by rw [txt_eq]; simpa using he
        have HF : Hid (∃ r, NwNew w wr (.slice a2 ((leftL (l.take k) s.data.toList).map nwOf).length cap2) ((leftL (l.take (k + 1)) s.data.toList).map nwOf) r) := ⟨r2, by rw [HS.out, if_pos he]; exact HNN.out⟩
        clear he HS HNN
        generalize l.getD k ([], 0) = x at d0 d1 hbe
        generalize ((leftL (l.take k) s.data.toList).map nwOf).length = M at *
        go_wp2
        go_roundw
        case rel => exact ⟨k + 1, by omega, by go_num, HF⟩
        case measure => simp [intOf]; omega
      · have hbe : ((str (l.getD k ([], 0)).1).toList == s.toList) = false := by rw [txt_eq]; simpa using he
        have HS2 : Hid (leftL (l.take (k + 1)) s.data.toList = leftL (l.take k) s.data.toList ++ [l.getD k ([], 0)]) := by unfold Hid; rw [HS.out, if_neg he]
        clear he HS
        generalize l.getD k ([], 0) = x at d0 d1 hbe HS2
        generalize leftL (l.take k) s.data.toList = T at *
        go_wp2_with (at_builtin; refine wpList_append_nw _ rfl _ _ rfl _ _ (T.map nwOf) [nwOf x] r2 rfl rfl ?hOwn ?hSrc ?hLen ?hR ?_)
        case hOwn => exact HNN.out.row.later ((Below.refl _ _).alloc (Nat.le_refl _) _)
        case hSrc => exact src_nw wr (nwOf x)
        case hLen => simp; omega
        case hR => exact .inr (by simp)
        intro v4 w4 g4 ho4 hg4 hr4
        obtain ⟨a4, c4, rfl, -, -⟩ := ho4.shape
        have HF : Hid (∃ r, NwNew w w4 (.slice a4 (T.map nwOf ++ [nwOf x]).length c4) ((leftL (l.take (k + 1)) s.data.toList).map nwOf) r) := ⟨some g4, by
          rw [HS2.out, List.map_append]
          exact (HNN.out.later ((Below.refl _ _).alloc (Nat.le_refl _) _)).app ho4 hg4 (by simpa using hr4)⟩
        clear ho4 hg4 hr4 HNN HS2
        generalize (T.map nwOf ++ [nwOf x]).length = M at *
        go_wp2
        go_roundw
        case rel => exact ⟨k + 1, by omega, by go_num, HF⟩
        case measure => simp [intOf]; omega
    · have hke : k = l.length := by omega
      have HF : Hid (∃ r, NwNew w wr (.slice a2 ((leftL (l.take k) s.data.toList).map nwOf).length cap2) ((leftL l s.data.toList).map nwOf) r) := ⟨r2, by
        have := HNN.out
        rw [hke, List.take_length] at this
        rw [hke, List.take_length]
        exact this⟩
      clear hN HNN hke
      generalize ((leftL (l.take k) s.data.toList).map nwOf).length = M at *
      go_wp2
      go_ret
      obtain ⟨r, hr⟩ := HF.out
      exact ⟨_, r, rfl, hr⟩
end Go.Proofs.Ytgpmhflndcppeaa

/-! The law on the past: was. -/
namespace Go.Proofs.Ytgpmhflndcppeaa
open Go.RowKit Go.Maps Plain
set_option linter.unusedVariables false
set_option linter.unusedSimpArgs false

theorem quiet_p {P : Program} {f : FuncId} {args : Array Value} {w : World} {x : Nat} {v : Value}
    (h : Calls P f args (w.drewN x) fun e w' => e = .returned v ∧ ∃ m, w' = (w.drewN x).drewN m) : Calls P f args (w.drewN x) fun e w'' => e = .returned v ∧ ∃ n, w'' = w.drewN n :=
  h.mono fun _ _ ⟨he, m, hm⟩ => ⟨he, x + m, by rw [hm, World.drewN_drewN]⟩
/-- One of the rows, and what it holds. -/
theorem RR.at {α : Type} {d0 : α} {w : World} {leaf : Value → α → Prop} {v : Value} {fs : List (List α)} {r : Option Nat} {fv : List Value} {rf : Nat → Option Nat} {sv : Nat → List Value} (h : RR d0 w leaf v fs r fv rf sv) {n : Nat} (hn : n < fs.length) :
    ∃ g cap a c, v = .slice (some ⟨g, 0, none⟩) fs.length cap ∧ r = some g ∧ fv.getD n undef = .slice a (fs.getD n []).length c ∧ w.cell? ⟨g, n, none⟩ = some (.slice a (fs.getD n []).length c) ∧ ∀ j, j < (fs.getD n []).length → ∃ gi, a = some ⟨gi, 0, none⟩ ∧ rf n = some gi ∧ w.cell? ⟨gi, j, none⟩ = some ((sv n).getD j undef) ∧ leaf ((sv n).getD j undef) ((fs.getD n []).getD j d0) := by
  obtain ⟨a0, c0, e, -, -⟩ := h.out.shape
  rw [h.len] at e
  subst e
  have hnf : n < fv.length := by rw [h.len]; exact hn
  have hget : fv[n]? = some (fv.getD n undef) := by rw [List.getD_eq_getElem?_getD, List.getElem?_eq_getElem hnf]; rfl
  obtain ⟨g, e3, e4, e5⟩ := h.out.get hget
  obtain ⟨a, c, e6, -, -⟩ := (h.inn n hn).shape
  rw [h.sl n hn] at e6
  have hin := h.inn n hn
  rw [e6] at e5 hin
  refine ⟨g, c0, a, c, by rw [e4], e3, e6, e5, fun j hj => ?_⟩
  have hjs : j < (sv n).length := by rw [h.sl n hn]; exact hj
  have hgj : (sv n)[j]? = some ((sv n).getD j undef) := by rw [List.getD_eq_getElem?_getD, List.getElem?_eq_getElem hjs]; rfl
  obtain ⟨gi, e7, e8, e9⟩ := hin.get hgj
  exact ⟨gi, e8, e7, e9, h.lf n hn j hjs⟩
theorem leafB.is {w : World} {B : Nat → Prop} {u : Value} {l : List Nat} (h : leafB w B u l) : ∃ a c, u = .slice a l.length c ∧ BytesAt w (.slice a l.length c) l ∧ l.length ≤ c ∧ c ≤ maxLen := by
  obtain ⟨r, h1, -⟩ := h
  have hb := h1.bytes
  obtain ⟨a, cap, e, h2, h3, -⟩ := hb
  subst e
  exact ⟨a, cap, rfl, h1.bytes, h2, h3⟩
theorem was_stop {st : List (List Nat)} {gr : List Int} {b : List Nat} {k : Nat} (h : ∀ j, j < k → wasAt st gr b j = false) : (k < st.length → wasAt st gr b k = true → wasB st gr b = true) ∧ (st.length ≤ k → wasB st gr b = false) := by
  refine ⟨fun h1 h2 => wasB_of k h1 h2, fun h1 => ?_⟩
  unfold wasB
  rw [List.any_eq_false]
  intro j hj
  rw [h j (by have := List.mem_range.mp hj; omega)]
  simp
set_option maxHeartbeats 8000000 in
set_option maxRecDepth 100000 in
theorem wasOf {w : World} {gp : Nat} {p : Ps} {B : Nat → Prop} {vF vG vD : Value} {rF rG rD : Option Nat} {fv gv dv : List Value} {rf rg : Nat → Option Nat} {sv tv : Nat → List Value} (h : PaM w gp p B vF vG vD rF rG rD fv gv dv rf rg sv tv) (f : Nat) (hf : f < p.files.length) (hg : f < p.grown.length) (hgl : (p.grown.getD f []).length = (p.files.getD f []).length) (hfl : p.files.length ≤ 4398046511103) (hsl : (p.files.getD f []).length ≤ 4398046511103)
    (a : Option Addr) (c : Nat) (b : List Nat) (hb : BytesAt w (.slice a b.length c) b) :
    Calls Try.prog 40 #[.pointer (some ⟨gp, 0, none⟩), .int .i64 f, .slice a b.length c] w fun e w' => e = .returned (.bool (wasB (p.files.getD f []) (p.grown.getD f []) b)) ∧ ∃ n, w' = w.drewN n := by
  obtain ⟨gF, capF, aF, cF, rfl, -, -, hcf, hFj⟩ := h.F.at hf
  obtain ⟨gG, capG, aG, cG, rfl, -, -, hcg, hGj⟩ := h.G.at hg
  have c0 := h.c0
  have c1 := h.c1
  have hfi : (f : Int) < (p.files.length : Int) := by omega
  have hgi : (f : Int) < (p.grown.length : Int) := by omega
  have hgl2 : p.grown.length ≤ maxLen := by
    obtain ⟨a9, c9, e9, h91, h92⟩ := h.G.out.shape
    rw [h.G.len] at h92; omega
  have hbl := hb.len
  have HF : Hid (∀ j, j < (p.files.getD f []).length → ∃ gi, aF = some ⟨gi, 0, none⟩ ∧ w.cell? ⟨gi, j, none⟩ = some ((sv f).getD j undef) ∧ leafB w B ((sv f).getD j undef) ((p.files.getD f []).getD j [])) := fun j hj => by
    obtain ⟨gi, e1, -, e2, e3⟩ := hFj j hj
    exact ⟨gi, e1, e2, e3⟩
  have HG : Hid (∀ j, j < (p.files.getD f []).length → ∃ gi, aG = some ⟨gi, 0, none⟩ ∧ w.cell? ⟨gi, j, none⟩ = some (.int .i64 ((p.grown.getD f []).getD j 0))) := fun j hj => by
    obtain ⟨gi, e1, -, e2, e3⟩ := hGj j (by rw [hgl]; exact hj)
    exact ⟨gi, e1, by rw [e2, e3.1]⟩
  have HBY : Hid (BytesAt w (.slice a b.length c) b) := hb
  rw [hgl] at hcg
  unfold maxLen at hbl hgl2
  clear hFj hGj h hb hgl
  generalize p.files.getD f [] = st at *
  generalize p.grown.getD f [] = gr at *
  generalize p.files.length = N at *
  generalize p.grown.length = N2 at *
  go_enter Try.func40, Try.ntmps40
  go_wp2
  go_loopw [7] (fun i wr => ∃ k : Nat, k ≤ st.length ∧ i = .int .i64 k ∧ Hid (∃ n, wr = w.drewN n) ∧ Hid (∀ j, j < k → wasAt st gr b j = false)) (fun i _ => st.length - (intOf i).toNat)
  case atStart => exact ⟨0, by omega, rfl, ⟨0, rfl⟩, fun j hj => by omega⟩
  case round =>
    obtain ⟨k, hk, rfl, HD, HB⟩ := hrel
    obtain ⟨n, hn⟩ := HD.out
    by_cases hlt : k < st.length
    · subst hn
      have hki : (k : Int) < (st.length : Int) := by omega
      obtain ⟨gi, rfl, d0, d1⟩ := HF.out k hlt
      obtain ⟨X, hX⟩ : ∃ X, st.getD k [] = X := ⟨_, rfl⟩
      rw [hX] at d1
      obtain ⟨ax, cx, e1, hbx, hx1, hx2⟩ := d1.is
      rw [e1] at d0
      unfold maxLen at hx2
      have HSA : Hid (Calls Try.prog 45 #[.slice ax X.length cx, .slice a b.length c] (w.drewN n) fun e w' => e = .returned (.bool (decide (X = b))) ∧ ∃ m, w' = (w.drewN n).drewN m) := sameBytes _ _ _ _ _ (hbx.drewN n) (HBY.out.drewN n)
      have HX : Hid (st.getD k [] = X) := hX
      have HST : Hid ((wasAt st gr b k = true → wasB st gr b = true) ∧ (wasAt st gr b k = false → ∀ j, j < k + 1 → wasAt st gr b j = false)) := ⟨fun h => (was_stop HB.out).1 hlt h, fun h j hj => by
        by_cases e : j = k
        · subst e; exact h
        · exact HB.out j (by omega)⟩
      clear d1 e1 hbx hX HB HD
      go_wp2_with fail
      refine HSA.out.mono ?_
      rintro e w2 ⟨rfl, m, rfl⟩
      rw [World.drewN_drewN]
      generalize n + m = n2
      clear HSA
      by_cases hA : X = b
      · have hAd : decide (X = b) = true := decide_eq_true hA
        have HF2 : Hid (wasB st gr b = true) := HST.out.1 (by unfold wasAt; rw [HX.out, hAd]; rfl)
        rw [hAd]
        clear hA hAd
        go_wp2
        go_ret
        exact ⟨by rw [HF2.out]; try rfl, n2, rfl⟩
      · have hAd : decide (X = b) = false := decide_eq_false hA
        have HNo : Hid (∀ v, (decide (k + 1 < st.length) && decide (0 ≤ gr.getD (k + 1) 0) && decide (X.length < b.length) && decide (b.length ≤ (st.getD (k + 1) []).length) && decide (b = (st.getD (k + 1) []).take b.length)) = v → wasAt st gr b k = v) := fun v hv => by unfold wasAt; rw [HX.out, hAd, Bool.false_or]; exact hv
        rw [hAd]
        clear hA hAd
        by_cases hk1 : k + 1 < st.length
        · have hk1i : (k : Int) + 1 < (st.length : Int) := by omega
          obtain ⟨gi2, e2, y0, y1⟩ := HF.out (k + 1) hk1
          obtain rfl : gi = gi2 := by injection e2 with e3; injection e3
          obtain ⟨gg, rfl, z0⟩ := HG.out (k + 1) hk1
          obtain ⟨Y, hY⟩ : ∃ Y, st.getD (k + 1) [] = Y := ⟨_, rfl⟩
          rw [hY] at y1
          obtain ⟨ay, cy, e4, hby, hy1, hy2⟩ := y1.is
          rw [e4] at y0
          unfold maxLen at hy2
          obtain ⟨z, hz⟩ : ∃ z, gr.getD (k + 1) 0 = z := ⟨_, rfl⟩
          rw [hz] at z0
          rw [hY, hz] at HNo
          clear y1 e4 e2 hY hz
          by_cases hz0 : 0 ≤ z
          · by_cases h3 : X.length < b.length
            · have h3i : (X.length : Int) < (b.length : Int) := by omega
              by_cases h4 : b.length ≤ Y.length
              · have h4i : (b.length : Int) ≤ (Y.length : Int) := by omega
                have HSB : Hid (∀ m, Calls Try.prog 45 #[.slice a b.length c, .slice ay b.length cy] (w.drewN m) fun e w' => e = .returned (.bool (decide (b = Y.take b.length))) ∧ ∃ m2, w' = (w.drewN m).drewN m2) := fun m => sameBytes _ _ _ _ _ (HBY.out.drewN m) ((hby.take b.length h4).drewN m)
                clear hby
                go_wp2_with fail
                refine (HSB.out n2).mono ?_
                rintro e w3 ⟨rfl, m3, rfl⟩
                rw [World.drewN_drewN]
                generalize n2 + m3 = n3
                clear HSB
                by_cases h5 : b = Y.take b.length
                · have h5d : decide (b = Y.take b.length) = true := decide_eq_true h5
                  have HF2 : Hid (wasB st gr b = true) := HST.out.1 (HNo.out true (by rw [h5d]; simp; omega))
                  rw [h5d]
                  clear h5 h5d HNo HST
                  go_wp2
                  go_ret
                  exact ⟨by rw [HF2.out]; try rfl, n3, rfl⟩
                · have h5d : decide (b = Y.take b.length) = false := decide_eq_false h5
                  have HF2 : Hid (∀ j, j < k + 1 → wasAt st gr b j = false) := HST.out.2 (HNo.out false (by rw [h5d]; simp))
                  rw [h5d]
                  clear h5 h5d HNo HST
                  go_wp2
                  go_roundw
                  case rel => exact ⟨k + 1, by omega, by go_num, ⟨n3, rfl⟩, HF2⟩
                  case measure => simp [intOf]; omega
              · have h4i : ¬ (b.length : Int) ≤ (Y.length : Int) := by omega
                have h4d : decide (b.length ≤ Y.length) = false := decide_eq_false h4
                have HF2 : Hid (∀ j, j < k + 1 → wasAt st gr b j = false) := HST.out.2 (HNo.out false (by rw [h4d]; simp))
                clear HNo HST h4d
                go_wp2
                go_roundw
                case rel => exact ⟨k + 1, by omega, by go_num, ⟨n2, rfl⟩, HF2⟩
                case measure => simp [intOf]; omega
            · have h3i : ¬ (X.length : Int) < (b.length : Int) := by omega
              have h3d : decide (X.length < b.length) = false := decide_eq_false h3
              have HF2 : Hid (∀ j, j < k + 1 → wasAt st gr b j = false) := HST.out.2 (HNo.out false (by rw [h3d]; simp))
              clear HNo HST h3d
              go_wp2
              go_roundw
              case rel => exact ⟨k + 1, by omega, by go_num, ⟨n2, rfl⟩, HF2⟩
              case measure => simp [intOf]; omega
          · have hzd : decide (0 ≤ z) = false := decide_eq_false hz0
            have HF2 : Hid (∀ j, j < k + 1 → wasAt st gr b j = false) := HST.out.2 (HNo.out false (by rw [hzd]; simp))
            clear HNo HST hzd
            go_wp2
            go_roundw
            case rel => exact ⟨k + 1, by omega, by go_num, ⟨n2, rfl⟩, HF2⟩
            case measure => simp [intOf]; omega
        · have hk1i : ¬ (k : Int) + 1 < (st.length : Int) := by omega
          have hkd : decide (k + 1 < st.length) = false := decide_eq_false hk1
          have HF2 : Hid (∀ j, j < k + 1 → wasAt st gr b j = false) := HST.out.2 (HNo.out false (by rw [hkd]; simp))
          clear HNo HST hkd
          go_wp2
          go_roundw
          case rel => exact ⟨k + 1, by omega, by go_num, ⟨n2, rfl⟩, HF2⟩
          case measure => simp [intOf]; omega
    · have HF2 : Hid (wasB st gr b = false) := (was_stop HB.out).2 (by omega)
      have HD2 : Hid (∃ n, wr = w.drewN n) := HD
      subst hn
      have hke : k = st.length := by omega
      subst hke
      clear HB HD
      go_wp2
      go_ret
      exact ⟨by rw [HF2.out]; try rfl, n, rfl⟩
end Go.Proofs.Ytgpmhflndcppeaa
