import Derived.Test.YthfnbcicpcbgjaaKor
import Derived.Deep.CutRange
import Derived.Deep.RegionLaw
import Derived.Test.YthfnbcicpcbgjaaKmd
import Derived.Test.YthfnbcicpcbgjaaKhd
/-! keydir: the walk of the law of order. -/
namespace Go.Proofs.Ythfnbcicpcbgjaa
open Go.RowKit Go.Shelf Plain
attribute [local go_sem] Oper.semAt_some
set_option linter.unusedVariables false
set_option linter.unusedSimpArgs false

theorem Hid.mk' {p : Prop} (h : p) : Hid p := h
theorem hresOrder : Try.f5.results = #[.cell 8 4] := by kernel_rfl
theorem map_r_getD {l : List Ke} {j : Nat} (h : j < l.length) : (l.map Ke.r).getD j Kr.zero = (l.getD j Ke.zero).r := by
  simp [List.getD_eq_getElem?_getD, List.getElem?_eq_getElem h]
theorem srt_step {l : List Ke} (hs : Srt l) {i : Nat} (hi : i + 1 < l.length) : kc (l.getD i Ke.zero).key (l.getD (i + 1) Ke.zero).key = -1 := by
  have e1 : l.getD i Ke.zero = l[i] := by rw [List.getD_eq_getElem?_getD, List.getElem?_eq_getElem (by omega)]; rfl
  have e2 : l.getD (i + 1) Ke.zero = l[i + 1] := by rw [List.getD_eq_getElem?_getD, List.getElem?_eq_getElem hi]; rfl
  rw [e1, e2]
  exact List.pairwise_iff_getElem.mp hs i (i + 1) (by omega) hi (by omega)
theorem TreeAt.keys {P : Nat → Prop} {w : World} : ∀ {n : Nat} {p : Option Addr} {l : List Ke}, TreeAt P w n p l → ∀ x ∈ l, x.key.size ≤ 64
  | 0, p, l, h, x, hx => by obtain ⟨-, rfl⟩ := h; simp at hx
  | n + 1, p, l, h, x, hx => by
    rcases h with ⟨-, rfl⟩ | ⟨g, k, pl, pr, ll, lr, e, hp, hk, hn, rfl, h1, h2⟩
    · simp at hx
    · rcases List.mem_append.mp hx with h | h
      · exact h1.keys x h
      · rcases List.mem_cons.mp h with rfl | h
        · exact hk
        · exact h2.keys x h
theorem DirAt.keys {D : Nat → Prop} {w : World} {gd : Nat} {l : List Ke} (h : DirAt D w gd l) {i : Nat} : (l.getD i Ke.zero).key.size ≤ 64 := by
  obtain ⟨-, -, -, d, p, -, ht⟩ := h
  by_cases hi : i < l.length
  · rw [List.getD_eq_getElem?_getD, List.getElem?_eq_getElem hi]
    exact ht.keys _ (List.getElem_mem hi)
  · rw [List.getD_eq_getElem?_getD, List.getElem?_eq_none (by omega)]
    exact Nat.zero_le _

theorem prefix_snoc {R pre : List Ke} {x : Ke} (h : pre <+: R) (hl : pre.length < R.length) (hx : R.getD pre.length Ke.zero = x) : pre ++ [x] <+: R := by
  obtain ⟨t, rfl⟩ := h
  cases t with
  | nil => simp at hl
  | cons y t =>
    have e : y = x := by
      rw [← hx]
      simp [List.getD_eq_getElem?_getD]
    subst e
    exact ⟨t, by simp⟩
theorem prefix_last {R pre : List Ke} {x : Ke} (h : pre ++ [x] <+: R) : pre.length < R.length ∧ R.getD pre.length Ke.zero = x := by
  obtain ⟨t, rfl⟩ := h
  refine ⟨by simp, ?_⟩
  simp [List.getD_eq_getElem?_getD]
theorem setN_keeps (B : Nat) (W : World) (nq : Nat) (p : Addr) (v : Value) : KeepsFrom B W ((W.drewN nq).setCell p v) := by
  have h1 : KeepsOthers W (W.drewN nq) := ⟨Nat.le_refl _, fun _ _ h _ => h⟩
  exact (h1.trans (KeepsOthers.setCell _ _ _)).from B
theorem setN_below {n₀ b : Nat} (W : World) (nq : Nat) (v : Value) (h : n₀ ≤ b) : Below n₀ W ((W.drewN nq).setCell ⟨b, 0, none⟩ v) := (below_drewN (Below.refl _ _) _).setCell (p := ⟨b, 0, none⟩) h _

theorem setN_high {n₁ b : Nat} (W : World) (nq : Nat) (v : Value) (h : b < n₁) : ∀ k, n₁ ≤ k → k < W.heap.size → ((W.drewN nq).setCell ⟨b, 0, none⟩ v).heap[k]? = W.heap[k]? := fun k hk hl =>
  (grow_setC (W.drewN nq) b 0 v).block k hl (fun e => by simp at e; omega)
theorem setN_kpw {n₀ n₁ b : Nat} (W : World) (nq : Nat) (v : Value) (h0 : n₀ ≤ b) (h1 : b < n₁) : KpW n₀ n₁ W ((W.drewN nq).setCell ⟨b, 0, none⟩ v) := ⟨setN_below W nq v h0, setN_high W nq v h1⟩
theorem setN_kph {n₁ b : Nat} (W : World) (nq : Nat) (v : Value) (h1 : b < n₁) : KpH n₁ W ((W.drewN nq).setCell ⟨b, 0, none⟩ v) := ⟨(setN_keeps 0 W nq ⟨b, 0, none⟩ v).size, setN_high W nq v h1⟩

/-- A post that lets nothing but ends and returns by. -/
def okPost (Q : Exit → Act → World → Prop) : Exit → Act → World → Prop
  | .normal, a, w => Q .normal a w
  | .ret, a, w => Q .ret a w
  | _, _, _ => False
theorem wp_okPost {P : Program} {c : Code} {Q : Exit → Act → World → Prop} {a : Act} {w : World} (h : c.wp P (okPost Q) a w) : c.wp P Q a w :=
  wp_mono h fun e a w hq => by cases e <;> first | exact hq | exact hq.elim

set_option maxHeartbeats 16000000 in
set_option maxRecDepth 100000 in
theorem orderWalk (a0 : Option Addr) (cap0 : Nat) (st : List Kr) (lo hi p : ByteArray) (hlo : lo.size ≤ maxLen) (hhi : hi.size ≤ maxLen) (hp : p.size ≤ maxLen) (w : World) (h : KrsAt w (.slice a0 st.length cap0) st) :
    Calls Try.prog 5 #[.slice a0 st.length cap0, .string lo, .string hi, .string p] w fun e w' => e = .returned (.bool true) ∧ Below w.heap.size w w' := by
  have hcl : st.length ≤ 2199023255500 := by obtain ⟨_, _, _, h1, _⟩ := h; exact h1
  have hLl : (laidL st).length ≤ 2199023255500 := Nat.le_trans (laidL_len st) hcl
  have HOK : Hid (∀ m, m < st.length → (st.getD m Kr.zero).Ok) := fun m hm => by
    obtain ⟨_, _, _, _, hok, _⟩ := h
    rw [List.getD_eq_getElem?_getD, List.getElem?_eq_getElem hm]
    exact hok _ (List.getElem_mem hm)
  have HCE : Hid (∀ u m, Below w.heap.size w u → m < st.length → ∃ b off, b < w.heap.size ∧ a0 = some ⟨b, off, none⟩ ∧ Kr.CellsAt u b (off + m * 7) (st.getD m Kr.zero)) := fun u m hu hm => by
    obtain ⟨a', c', e', _, _, hcells⟩ := h
    obtain ⟨b, off, e, hc⟩ := hcells (by intro e; rw [e] at hm; simp at hm)
    cases e'
    exact ⟨b, off, (hc m hm).lt, e, (hc m hm).block (hu.block _ (hc m hm).lt)⟩
  obtain ⟨w0, hw0⟩ : ∃ w0, w.alloc (.cells #[.bool false] 4) = w0 := ⟨_, rfl⟩
  have hs0 : w0.heap.size = w.heap.size + 1 := by rw [← hw0]; simp
  have hb0 : Below w.heap.size w w0 := by rw [← hw0]; exact (Below.refl _ _).alloc (Nat.le_refl _) _
  have hres : w0.cell? ⟨w.heap.size, 0, none⟩ = some (.bool false) := by rw [← hw0]; exact World.cell?_alloc_at _ _ _ _ rfl
  have hrsf : w0.frozen? ⟨w.heap.size, 0, none⟩ = false := by rw [← hw0]; exact World.frozen?_alloc_at _ _ _ _ rfl
  have HLA : Hid (Calls Try.prog 18 #[.slice a0 st.length cap0] w0 fun e w' => e = .returned (.tuple #[.pointer (some ⟨w0.heap.size, 0, none⟩), .bool true]) ∧ Below w0.heap.size w0 w' ∧ DirAt (fun g => g = w0.heap.size) w' w0.heap.size (laidL st)) := laidOf (fun g => g = w0.heap.size) _ st w0 (h.later hb0) rfl (fun g hg => by omega)
  have HLN : Hid ((laidL st).length ≤ st.length) := laidL_len st
  have HFD : Hid (∀ m, m < st.length → okKey (st.getD m Kr.zero).key = true → (findL (st.getD m Kr.zero).key (laidL st)).isSome = true) := fun m hm hok => by
    rw [find_laid, Option.isSome_map]
    unfold lastK
    rw [if_pos hok]
    unfold lastM
    rw [List.find?_isSome]
    refine ⟨st.getD m Kr.zero, ?_, by simp [kc_self]⟩
    rw [List.mem_reverse, List.getD_eq_getElem?_getD, List.getElem?_eq_getElem hm]
    exact List.getElem_mem hm
  clear h
  obtain ⟨gd, hgd⟩ : ∃ gd, w0.heap.size = gd := ⟨_, rfl⟩
  rw [hgd] at HLA
  generalize hL : laidL st = L at HLA HLN HFD hLl
  clear hL
  refine (callsIn_wide (n := 8)).1 ?_
  refine callsIn_of_wp_marks Try.func5 rfl trivial ?_ rfl
  simp only [Try.ntmps5, List.size_toArray, List.length_cons, List.length_nil, Nat.reduceAdd, Nat.reduceSub, Array.replicate_succ, Array.replicate_zero, List.push_toArray, List.append_toArray, List.nil_append, List.cons_append]
  refine wpIn_wide.2 ?_
  refine wp_okPost ?_
  go_wp2_with fail
  refine HLA.out.mono ?_
  rintro e w1 ⟨rfl, hb1, hd1⟩
  clear HLA
  have hgl := hd1.lt
  have HBW1 : Hid (Below w.heap.size w w1) := hb0.trans (hb1.mono (by omega))
  have hres1 := (hb1.cell (p := ⟨w.heap.size, 0, none⟩) (by show w.heap.size < _; omega)).trans hres
  have hrsf1 := (hb1.frozen (p := ⟨w.heap.size, 0, none⟩) (by show w.heap.size < _; omega)).trans hrsf
  have HD1 : Hid (DirAt (fun g => g = gd) w1 gd L) := hd1
  clear hb0 hb1 hres hrsf hd1
  go_wp2_with fail
  refine (rangeRow _ w1 HD1.out hLl).mono ?_
  rintro e w2 ⟨vr, rfl, hrow, hb2⟩
  have htk : L.take ((st.length : Int) + 1).toNat = L := List.take_of_length_le (by have := HLN.out; omega)
  rw [htk] at hrow
  obtain ⟨a1, c1, hvr, -, hcells⟩ := hrow
  rw [List.length_map] at hvr hcells
  subst hvr
  have HRC : Hid (∀ u m, Below w2.heap.size w2 u → m < L.length → ∃ b off, b < w2.heap.size ∧ a1 = some ⟨b, off, none⟩ ∧ Kr.CellsAt u b (off + m * 7) (L.getD m Ke.zero).r) := fun u m hu hm => by
    obtain ⟨b, off, e, hc⟩ := hcells (by intro e; have := congrArg List.length e; simp at this; rw [this] at hm; simp at hm)
    have hc2 := hc m hm
    rw [map_r_getD hm] at hc2
    exact ⟨b, off, hc2.lt, e, hc2.block (hu.block _ hc2.lt)⟩
  have HD2 : Hid (∀ u, Below w2.heap.size w2 u → DirAt (fun g => g = gd) u gd L) := fun u hu => HD1.out.later (below_step' hb2 hu)
  have HBW2 : Hid (Below w.heap.size w w2) := below_step' HBW1.out hb2
  have HRS : Hid (∀ u, Below w2.heap.size w2 u → u.cell? ⟨w.heap.size, 0, none⟩ = some (.bool false) ∧ u.frozen? ⟨w.heap.size, 0, none⟩ = false) := fun u hu => ⟨((below_step' hb2 hu).cell (p := ⟨w.heap.size, 0, none⟩) (cell_lt hres1)).trans hres1, ((below_step' hb2 hu).frozen (p := ⟨w.heap.size, 0, none⟩) (cell_lt hres1)).trans hrsf1⟩
  have HKY : Hid (∀ m, (L.getD m Ke.zero).key.size ≤ maxLen) := fun m => by
    have := HD1.out.keys (i := m)
    unfold maxLen; omega
  have HSR : Hid (Srt L) := HD1.out.srt
  have HNT : Hid (∀ u z, Below w2.heap.size w2 u → I64 z → Calls Try.prog 22 #[.pointer (some ⟨gd, 0, none⟩), .int .i64 z] u fun e w' => e = .returned (.tuple #[((nthL L z).getD Ke.zero).v, .bool (nthL L z).isSome]) ∧ Below u.heap.size u w') := fun u z hu hz => nthOf z u (HD2.out u hu) hz (by omega)
  have HRK : Hid (∀ u key, Below w2.heap.size w2 u → key.size ≤ maxLen → Calls Try.prog 23 #[.pointer (some ⟨gd, 0, none⟩), .string key] u fun e w' => e = .returned (.int .i64 (rankL key L : Nat)) ∧ Below u.heap.size u w') := fun u key hu hk => rankOf key u (HD2.out u hu) hk (by omega)
  clear hcells hb2 hres1 hrsf1 HD1 htk HBW1
  go_wp2_with fail
  refine (lenOf w2 (HD2.out w2 (Below.refl _ _))).mono ?_
  rintro e wk ⟨rfl, hwk⟩
  obtain rfl := hwk.symm
  go_wp2
  go_loopg [12] L.length (fun gk s12 wx => ∃ (m : Nat), m + gk = L.length ∧ s12 = .int .i64 m ∧ Hid (Below w2.heap.size w2 wx))
  case atStart => exact ⟨0, by omega, rfl, Below.refl _ _⟩
  case round =>
    obtain ⟨m, hgm, rfl, HB⟩ := hrel
    cases gk with
    | zero =>
      obtain rfl : m = L.length := by omega
      go_wp2
      go_loopg [15] st.length (fun gk s15 wx => ∃ (m : Nat), m + gk = st.length ∧ s15 = .int .i64 m ∧ Hid (Below w2.heap.size w2 wx))
      case atStart => exact ⟨0, by omega, rfl, HB.out⟩
      case round =>
        clear HB hgm
        obtain ⟨m, hgm, rfl, HB⟩ := hrel
        cases gk with
        | zero =>
          obtain rfl : m = st.length := by omega
          have HNP : Hid (∀ u, Below w2.heap.size w2 u → Calls Try.prog 22 #[.pointer (some ⟨gd, 0, none⟩), .int .i64 L.length] u fun e w' => e = .returned (.tuple #[Ke.zero.v, .bool false]) ∧ Below u.heap.size u w') := fun u hu => by
            have h1 := HNT.out u L.length hu (by unfold I64; omega)
            rw [nth_past] at h1
            exact h1
          have HNU : Hid (∀ u, Below w2.heap.size w2 u → Calls Try.prog 22 #[.pointer (some ⟨gd, 0, none⟩), .int .i64 (-1)] u fun e w' => e = .returned (.tuple #[Ke.zero.v, .bool false]) ∧ Below u.heap.size u w') := fun u hu => by
            have h1 := HNT.out u (-1) hu (by unfold I64; omega)
            rw [nth_under] at h1
            exact h1
          obtain ⟨⟨zk, ⟨za, zb, zc, zd, zt, zm⟩⟩, hz⟩ : ∃ z, Ke.zero = z := ⟨_, rfl⟩
          rw [hz] at HNP HNU
          clear hz
          go_wp2_with fail
          refine (HNP.out wr HB.out).mono ?_
          rintro e w3 ⟨rfl, hb3⟩
          obtain ⟨w4, hw4⟩ : ∃ w4, w3.alloc (.cells #[.string zk, .int .i64 za, .int .i64 zb, .int .i64 zc, .int .i64 zd, .int .i64 zt, .bool zm] 28) = w4 := ⟨_, rfl⟩
          have hb34 : Below w3.heap.size w3 w4 := by rw [← hw4]; exact (Below.refl _ _).alloc (Nat.le_refl _) _
          have HB4 : Hid (Below w2.heap.size w2 w4) := below_step' HB.out (below_step' hb3 hb34)
          clear hb3 hb34
          go_wp2_with fail
          refine (HNU.out w4 HB4.out).mono ?_
          rintro e w5 ⟨rfl, hb5⟩
          obtain ⟨w6, hw6⟩ : ∃ w6, w5.alloc (.cells #[.string zk, .int .i64 za, .int .i64 zb, .int .i64 zc, .int .i64 zd, .int .i64 zt, .bool zm] 28) = w6 := ⟨_, rfl⟩
          have hb56 : Below w5.heap.size w5 w6 := by rw [← hw6]; exact (Below.refl _ _).alloc (Nat.le_refl _) _
          have HB6 : Hid (Below w2.heap.size w2 w6) := below_step' HB4.out (below_step' hb5 hb56)
          clear hb5 hb56 HNP HNU
          go_wp2
          go_loopg [23] L.length (fun gk s23 wx => ∃ (m : Nat), m + gk = L.length ∧ s23 = .int .i64 m ∧ Hid (∃ v1 r1 v2 r2, Bx2 w6 wx (rngL lo hi (L.take m)) ((L.take m).filter (begB p)) v1 r1 v2 r2))
          case atStart => exact ⟨0, by omega, rfl, _, _, _, _, Bx2.new w6⟩
          case round =>
            clear HB HB4 hgm
            obtain ⟨m, hgm, rfl, HX⟩ := hrel
            cases gk with
            | zero =>
              obtain rfl : m = L.length := by omega
              obtain ⟨v1, r1, v2, r2, hx⟩ := HX.out
              rw [List.take_length] at hx
              have hbX := hx.bel
              have hsX := hx.siz
              obtain ⟨R, hR⟩ : ∃ R, rngL lo hi L = R := ⟨_, rfl⟩
              obtain ⟨Y, hY⟩ : ∃ Y, L.filter (begB p) = Y := ⟨_, rfl⟩
              have hRl : R.length ≤ 2199023255500 := by rw [← hR]; exact Nat.le_trans (List.length_filter_le ..) hLl
              have hYl : Y.length ≤ 2199023255500 := by rw [← hY]; exact Nat.le_trans (List.length_filter_le ..) hLl
              rw [hR, hY] at hx
              obtain ⟨av, cv, hv1, -, hcells1⟩ := hx.o1.row (by simpa using hRl)
              obtain ⟨au, cu, hv2, -, hcells2⟩ := hx.o2.row (by simpa using hYl)
              have hk1 := hx.c1
              have hk2 := hx.c2
              rw [hv1] at hk1
              rw [hv2] at hk2
              rw [List.length_map] at hk1 hk2 hcells1 hcells2
              have HE1 : Hid (∀ u, Below wr.heap.size wr u → u.cell? ⟨w6.heap.size, 0, none⟩ = some (.slice av R.length cv) ∧ ∀ j, j < R.length → ∃ b off, av = some ⟨b, off, none⟩ ∧ Kr.CellsAt u b (off + j * 7) (R.getD j Ke.zero).r) := fun u hu => by
                refine ⟨(hu.cell (p := ⟨w6.heap.size, 0, none⟩) (cell_lt hk1)).trans hk1, fun j hj => ?_⟩
                obtain ⟨b, off, e, hc⟩ := hcells1 (by intro e; have := congrArg List.length e; simp at this; rw [this] at hj; simp at hj)
                have hc2 := hc j hj
                rw [map_r_getD hj] at hc2
                exact ⟨b, off, e, hc2.block (hu.block _ hc2.lt)⟩
              have HE2 : Hid (∀ u, Below wr.heap.size wr u → u.cell? ⟨w6.heap.size + 1, 0, none⟩ = some (.slice au Y.length cu) ∧ ∀ j, j < Y.length → ∃ b off, au = some ⟨b, off, none⟩ ∧ Kr.CellsAt u b (off + j * 7) (Y.getD j Ke.zero).r) := fun u hu => by
                refine ⟨(hu.cell (p := ⟨w6.heap.size + 1, 0, none⟩) (cell_lt hk2)).trans hk2, fun j hj => ?_⟩
                obtain ⟨b, off, e, hc⟩ := hcells2 (by intro e; have := congrArg List.length e; simp at this; rw [this] at hj; simp at hj)
                have hc2 := hc j hj
                rw [map_r_getD hj] at hc2
                exact ⟨b, off, e, hc2.block (hu.block _ hc2.lt)⟩
              have HBR : Hid (Below w2.heap.size w2 wr) := below_step' HB6.out hbX
              have hdR := HD2.out wr HBR.out
              have hgR := hdR.lt
              obtain ⟨-, -, -, dd, q, hcd, ht⟩ := hdR
              have HTT : Hid (TreeAt (fun g => g < wr.heap.size) wr dd q L) := TreeAt.tight (fun g _ hg => hg) (ht.weak fun _ _ => trivial)
              have HTop : Hid (∀ u, Below wr.heap.size wr u → Calls Try.prog 35 #[.pointer (some ⟨gd, 0, none⟩)] u fun e w' => e = .returned (.pointer q) ∧ w' = u) := fun u hu => topOf gd q u ((hu.cell (p := ⟨gd, 0, none⟩) hgR).trans hcd)
              have HRW : Hid (∀ u, Below wr.heap.size wr u → u.cell? ⟨w.heap.size, 0, none⟩ = some (.bool false) ∧ u.frozen? ⟨w.heap.size, 0, none⟩ = false) := fun u hu => HRS.out u (below_step' HBR.out hu)
              have HYA : Hid (rngL p (aftS p) L = Y) := by unfold Hid; rw [rngL_after]; exact hY
              have HBFin : Hid (Below w.heap.size w wr) := below_step' HBW2.out HBR.out
              have hwsz : w.heap.size < wr.heap.size := cell_lt (HRW.out wr (Below.refl _ _)).1
              clear hx hv1 hv2 hk1 hk2 hcells1 hcells2 ht hcd HX hbX HD2 HRS HNT HRK HRC HCE HFD HOK HKY HBW2
              obtain ⟨V0, hV0⟩ : ∃ V0, wr.alloc (.cells #[.int .i64 0] 3) = V0 := ⟨_, rfl⟩
              have hsV0 : V0.heap.size = wr.heap.size + 1 := by rw [← hV0]; simp
              have hbV0 : Below wr.heap.size wr V0 := by rw [← hV0]; exact (Below.refl _ _).alloc (Nat.le_refl _) _
              have hcV0 : V0.cell? ⟨wr.heap.size, 0, none⟩ = some (.int .i64 0) := by rw [← hV0]; exact World.cell?_alloc_at _ _ _ _ rfl
              have hfV0 : V0.frozen? ⟨wr.heap.size, 0, none⟩ = false := by rw [← hV0]; exact World.frozen?_alloc_at _ _ _ _ rfl
              obtain ⟨V1, hV1⟩ : ∃ V1, ((V0.alloc (.cells #[.pointer (some ⟨gd, 0, none⟩)] 29)).alloc (.cells #[.string lo] 9)).alloc (.cells #[.string hi] 9) = V1 := ⟨_, rfl⟩
              have HAL : Hid (Calls Try.prog 24 #[.pointer (some ⟨gd, 0, none⟩), .string lo, .string hi] V0 fun e w' => e = .returned (.func (.func 40) #[] #[.pointer (some ⟨V0.heap.size, 0, none⟩), .pointer (some ⟨V0.heap.size + 1, 0, none⟩), .pointer (some ⟨V0.heap.size + 2, 0, none⟩)]) ∧ w' = V1) := by
                have h := callsIn_wide.1 (allIn 7 (some ⟨gd, 0, none⟩) lo hi V0)
                rw [hV1] at h
                exact h
              have hsV1 : V1.heap.size = V0.heap.size + 3 := by rw [← hV1]; simp
              have hb01 : Below V0.heap.size V0 V1 := by rw [← hV1]; exact (((Below.refl _ _).alloc (Nat.le_refl _) _).alloc (by simp) _).alloc (by simp; omega) _
              have hbV1 : Below wr.heap.size wr V1 := below_step' hbV0 hb01
              have hcap : CapAt V1 V0.heap.size (.pointer (some ⟨gd, 0, none⟩)) lo hi := by
                rw [← hV1]
                have e1 : (V0.alloc (.cells #[.pointer (some ⟨gd, 0, none⟩)] 29)).heap.size = V0.heap.size + 1 := by simp
                have e2 : ((V0.alloc (.cells #[.pointer (some ⟨gd, 0, none⟩)] 29)).alloc (.cells #[.string lo] 9)).heap.size = V0.heap.size + 2 := by simp
                have k1 : (V0.alloc (.cells #[.pointer (some ⟨gd, 0, none⟩)] 29)).cell? ⟨V0.heap.size, 0, none⟩ = some (.pointer (some ⟨gd, 0, none⟩)) := World.cell?_alloc_at _ _ _ _ rfl
                have k2 : ((V0.alloc (.cells #[.pointer (some ⟨gd, 0, none⟩)] 29)).alloc (.cells #[.string lo] 9)).cell? ⟨V0.heap.size + 1, 0, none⟩ = some (.string lo) := by rw [← e1]; exact World.cell?_alloc_at _ _ _ _ rfl
                refine ⟨?_, ?_, ?_⟩
                · exact cell_kept (cell_kept k1 (World.grownBy_alloc _ _ none) (fun r e => by cases e)) (World.grownBy_alloc _ _ none) (fun r e => by cases e)
                · exact cell_kept k2 (World.grownBy_alloc _ _ none) (fun r e => by cases e)
                · rw [← e2]; exact World.cell?_alloc_at _ _ _ _ rfl
              have hseq := allStops (some ⟨gd, 0, none⟩) 7 q lo hi hlo hhi wr.heap.size V0.heap.size dd L V1 (by omega) (by omega) hcap (fun u hu => HTop.out u (below_step' hbV1 hu)) (HTT.out.later hbV1) HSR.out
              rw [hR, hsV0] at hseq
              rw [hsV0] at HAL
              have hcV1 : V1.cell? ⟨wr.heap.size, 0, none⟩ = some (.int .i64 0) := (hb01.cell (p := ⟨wr.heap.size, 0, none⟩) (cell_lt hcV0)).trans hcV0
              have hfV1 : V1.frozen? ⟨wr.heap.size, 0, none⟩ = false := (hb01.frozen (p := ⟨wr.heap.size, 0, none⟩) (cell_lt hcV0)).trans hfV0
              have HV0 : Hid (wr.alloc (.cells #[.int .i64 0] 3) = V0) := hV0
              clear hcap hcV0 hfV0 hb01 hV0 hV1
              go_wp2_with fail
              rw [HV0.out]
              refine HAL.out.mono ?_
              rintro e wk ⟨rfl, hwk⟩
              obtain rfl := hwk.symm
              clear HAL
              go_wp2_with fail
              refine (wpIn_wide (n := 8)).1 ?_
              refine' rangeAllF _ (by omega) (gf := 40) (lb := #[.pointer (some ⟨wr.heap.size + 1, 0, none⟩), .pointer (some ⟨wr.heap.size + 1 + 1, 0, none⟩), .pointer (some ⟨wr.heap.size + 1 + 2, 0, none⟩)]) rfl (enters_of Try.func40 (by kernel_rfl) rfl) (by omega : wr.heap.size ≤ V1.heap.size) hseq (fun _ => rfl)
                (fun pre W => pre <+: R ∧ Below wr.heap.size wr W ∧ W.cell? ⟨wr.heap.size, 0, none⟩ = some (.int .i64 pre.length) ∧ W.frozen? ⟨wr.heap.size, 0, none⟩ = false ∧ V1.heap.size ≤ W.heap.size)
                (fun xs W => ¬ xs <+: R)
                (fun s A A' row h1 hg hr => ⟨h1.1, h1.2.1.grown hg h1.2.1.size (fun k e => by have := (hr k e).1; omega), cell_kept h1.2.2.1 hg (fun k e => (hr k e).2), (frozen_kept h1.2.2.1 hg (fun k e => (hr k e).2)).trans h1.2.2.2.1, Nat.le_trans h1.2.2.2.2 hg.size⟩)
                (fun s A A' row h1 hg hr => h1)
                ⟨List.nil_prefix, hbV1, hcV1, hfV1, Nat.le_refl _⟩ ?assign ?body ?hsz ?done ?stop
              case assign =>
                intro l' x V K hK
                have HK := Hid.mk' hK
                clear hK
                gi_wp2
                refine HK.out _ ?_
                generalize V.heap.size = Bx
                exact rfl
              case hsz => exact fun s W h => h.2.1.size
              case stop => exact fun pre W h1 h2 => h2 h1
              case done =>
                rintro D W hD ⟨-, hbW, hcn, hfn, hszW⟩ hK
                have hDW : D < W.heap.size := (Array.getElem?_eq_some_iff.1 hK).1
                have hwW : wr.heap.size < W.heap.size := cell_lt hcn
                have hwD : w.heap.size < D := by omega
                clear hfn hseq hcV1 hfV1 hsV0 hbV0 HV0
                obtain ⟨U0, hU0⟩ : ∃ U0, W.alloc (.cells #[.int .i64 0] 3) = U0 := ⟨_, rfl⟩
                have hsU0 : U0.heap.size = W.heap.size + 1 := by rw [← hU0]; simp
                have hbU0 : Below W.heap.size W U0 := by rw [← hU0]; exact (Below.refl _ _).alloc (Nat.le_refl _) _
                have hcU0 : U0.cell? ⟨W.heap.size, 0, none⟩ = some (.int .i64 0) := by rw [← hU0]; exact World.cell?_alloc_at _ _ _ _ rfl
                have hfU0 : U0.frozen? ⟨W.heap.size, 0, none⟩ = false := by rw [← hU0]; exact World.frozen?_alloc_at _ _ _ _ rfl
                obtain ⟨U1, hU1⟩ : ∃ U1, (U0.alloc (.cells #[.pointer (some ⟨gd, 0, none⟩)] 29)).alloc (.cells #[.string p] 9) = U1 := ⟨_, rfl⟩
                have HPR : Hid (Calls Try.prog 25 #[.pointer (some ⟨gd, 0, none⟩), .string p] U0 fun e w' => e = .returned (.func (.func 42) #[] #[.pointer (some ⟨U0.heap.size + 1, 0, none⟩), .pointer (some ⟨U0.heap.size, 0, none⟩)]) ∧ w' = U1) := by
                  have h := callsIn_wide.1 (prefixIn 7 (some ⟨gd, 0, none⟩) p U0)
                  rw [hU1] at h
                  exact h
                have hsU1 : U1.heap.size = U0.heap.size + 2 := by rw [← hU1]; simp
                have hb01 : Below U0.heap.size U0 U1 := by rw [← hU1]; exact ((Below.refl _ _).alloc (Nat.le_refl _) _).alloc (by simp) _
                have q1 : U1.cell? ⟨U0.heap.size, 0, none⟩ = some (.pointer (some ⟨gd, 0, none⟩)) := by
                  rw [← hU1]
                  have k1 : (U0.alloc (.cells #[.pointer (some ⟨gd, 0, none⟩)] 29)).cell? ⟨U0.heap.size, 0, none⟩ = some (.pointer (some ⟨gd, 0, none⟩)) := World.cell?_alloc_at _ _ _ _ rfl
                  exact cell_kept k1 (World.grownBy_alloc _ _ none) (fun r e => by cases e)
                have q2 : U1.cell? ⟨U0.heap.size + 1, 0, none⟩ = some (.string p) := by
                  have e1 : (U0.alloc (.cells #[.pointer (some ⟨gd, 0, none⟩)] 29)).heap.size = U0.heap.size + 1 := by simp
                  rw [← hU1, ← e1]
                  exact World.cell?_alloc_at _ _ _ _ rfl
                have hbU1 : Below W.heap.size W U1 := below_step' hbU0 hb01
                have hbRU : Below wr.heap.size wr U1 := hbW.trans (hbU1.mono hbW.size)
                have hseq2 := prefixOwn (da := some ⟨gd, 0, none⟩) (q := q) 7 wr.heap.size dd U0.heap.size (by omega) p hp L U1 (by omega) q1 q2 (fun u hu => HTop.out u (hbRU.trans hu)) (HTT.out.kept fun g hg hg0 => hbRU.block g hg) HSR.out
                rw [HYA.out, hsU0] at hseq2
                rw [hsU0] at HPR
                have hcU1 : U1.cell? ⟨W.heap.size, 0, none⟩ = some (.int .i64 0) := (hb01.cell (p := ⟨W.heap.size, 0, none⟩) (cell_lt hcU0)).trans hcU0
                have hfU1 : U1.frozen? ⟨W.heap.size, 0, none⟩ = false := (hb01.frozen (p := ⟨W.heap.size, 0, none⟩) (cell_lt hcU0)).trans hfU0
                have hcnU : U1.cell? ⟨wr.heap.size, 0, none⟩ = some (.int .i64 R.length) := (hbU1.cell (p := ⟨wr.heap.size, 0, none⟩) hwW).trans hcn
                have hKU : U1.heap[D]? = some (.deferred (some [])) := (hbU1.block D hDW).trans hK
                have HU0 : Hid (W.alloc (.cells #[.int .i64 0] 3) = U0) := hU0
                clear hU0 hU1 hcU0 hfU0 hb01 q1 q2 hK hcn hbU0
                go_wp2_with fail
                rw [HU0.out]
                refine HPR.out.mono ?_
                rintro e wk ⟨rfl, hwk⟩
                obtain rfl := hwk.symm
                clear HPR
                go_wp2_with fail
                refine (wpIn_wide (n := 8)).1 ?_
                refine' rangeOwnF _ (gf := 42) (lb := #[.pointer (some ⟨W.heap.size + 1 + 1, 0, none⟩), .pointer (some ⟨W.heap.size + 1, 0, none⟩)]) rfl (enters_of Try.func42 (by kernel_rfl) rfl) (by omega : wr.heap.size ≤ U1.heap.size) hseq2 rfl
                  (fun pre X => pre <+: Y ∧ Below wr.heap.size wr X ∧ X.cell? ⟨wr.heap.size, 0, none⟩ = some (.int .i64 R.length) ∧ X.cell? ⟨W.heap.size, 0, none⟩ = some (.int .i64 pre.length) ∧ X.frozen? ⟨W.heap.size, 0, none⟩ = false ∧ X.heap[D]? = some (.deferred (some [])) ∧ U1.heap.size ≤ X.heap.size)
                  (fun xs X => ¬ xs <+: Y)
                  (fun s A A' row h1 hg hr => ⟨h1.1, h1.2.1.grown hg h1.2.1.size (fun k e => by have := (hr k e).1; omega), cell_kept h1.2.2.1 hg (fun k e => (hr k e).2), cell_kept h1.2.2.2.1 hg (fun k e => (hr k e).2), (frozen_kept h1.2.2.2.1 hg (fun k e => (hr k e).2)).trans h1.2.2.2.2.1, (hg.block D (Array.getElem?_eq_some_iff.1 h1.2.2.2.2.2.1).1 (fun e => by have := (hr D e.symm).1; omega)).trans h1.2.2.2.2.2.1, Nat.le_trans h1.2.2.2.2.2.2 hg.size⟩)
                  (fun s A A' row h1 hg hr => h1)
                  ⟨List.nil_prefix, hbRU, hcnU, hcU1, hfU1, hKU, Nat.le_refl _⟩ ?assign2 ?body2 ?done2 ?stop2
                case assign2 =>
                  intro l' x V K hK
                  have HK := Hid.mk' hK
                  clear hK
                  gi_wp2
                  refine HK.out _ ?_
                  generalize V.heap.size = Bx
                  exact rfl
                case stop2 => exact fun pre W h1 h2 => h2 h1
                case done2 =>
                  rintro D2 X hD2 ⟨-, hbX, hnX, hmX, hfX, hKX, hszX⟩ hK2
                  obtain ⟨e1, -⟩ := HE1.out X hbX
                  obtain ⟨e2, -⟩ := HE2.out X hbX
                  have hDX : D < X.heap.size := (Array.getElem?_eq_some_iff.1 hKX).1
                  have hD2X : D2 < X.heap.size := (Array.getElem?_eq_some_iff.1 hK2).1
                  have hrX := HRW.out X hbX
                  have HFX : Hid (∀ X3, Below X.heap.size X X3 → X3.cell? ⟨w.heap.size, 0, none⟩ = some (.bool false) ∧ X3.frozen? ⟨w.heap.size, 0, none⟩ = false ∧ X3.heap[D]? = some (.deferred (some [])) ∧ X3.heap[D2]? = some (.deferred (some [])) ∧ Below w.heap.size w X3) := fun X3 h3 =>
                    ⟨(h3.cell (p := ⟨w.heap.size, 0, none⟩) (cell_lt hrX.1)).trans hrX.1, (h3.frozen (p := ⟨w.heap.size, 0, none⟩) (cell_lt hrX.1)).trans hrX.2, (h3.block D hDX).trans hKX, (h3.block D2 hD2X).trans hK2, below_step' HBFin.out (hbX.trans (h3.mono hbX.size))⟩
                  have HNE : Hid (D ≠ D2 ∧ w.heap.size < D ∧ w.heap.size < D2) := ⟨by omega, by omega, by omega⟩
                  clear hrX hKX hK2
                  go_wp2_with fail
                  refine (headOf X).mono ?_
                  rintro e X3 ⟨rfl, hb3⟩
                  obtain ⟨rb, rf, hKD, hKD2, hBX⟩ := HFX.out X3 hb3
                  have HKD : Hid (X3.heap[D]? = some (.deferred (some []))) := hKD
                  have HKD2 : Hid (X3.heap[D2]? = some (.deferred (some []))) := hKD2
                  have HBX : Hid (Below w.heap.size w X3) := hBX
                  clear hKD hKD2 hBX hb3 HFX
                  go_wp2
                  have t1 : (X3.setCell ⟨w.heap.size, 0, none⟩ (.bool true)).heap[D2]? = some (.deferred (some [])) := (KeepsOthers.setCell _ _ _).same D2 _ HKD2.out rfl
                  have t2 : (X3.setCell ⟨w.heap.size, 0, none⟩ (.bool true)).heap[D]? = some (.deferred (some [])) := (KeepsOthers.setCell _ _ _).same D _ HKD.out rfl
                  have g1 := grownBy_putObj' (X3.setCell ⟨w.heap.size, 0, none⟩ (.bool true)) D2 (.deferred none)
                  have t3 : ((X3.setCell ⟨w.heap.size, 0, none⟩ (.bool true)).putObj D2 (.deferred none)).heap[D]? = some (.deferred (some [])) := (g1.block D (Array.getElem?_eq_some_iff.1 t2).1 (fun e => HNE.out.1 (by cases e; rfl))).trans t2
                  have g2 := grownBy_putObj' ((X3.setCell ⟨w.heap.size, 0, none⟩ (.bool true)).putObj D2 (.deferred none)) D (.deferred none)
                  have c1 : (X3.setCell ⟨w.heap.size, 0, none⟩ (.bool true)).cell? ⟨w.heap.size, 0, none⟩ = some (.bool true) := World.cell?_setCell_same' _ _ _ (by rw [rb]; rfl)
                  have c2 := cell_kept c1 g1 (fun k e => by cases e; exact ⟨_, t1, rfl⟩)
                  have c3 := cell_kept c2 g2 (fun k e => by cases e; exact ⟨_, t3, rfl⟩)
                  have hB1 : Below w.heap.size w (X3.setCell ⟨w.heap.size, 0, none⟩ (.bool true)) := HBX.out.setCell (p := ⟨w.heap.size, 0, none⟩) (Nat.le_refl _) _
                  have hB2 := hB1.grown g1 hB1.size (fun k e => by cases e; exact Nat.le_of_lt HNE.out.2.2)
                  have hB3 := hB2.grown g2 hB2.size (fun k e => by cases e; exact Nat.le_of_lt HNE.out.2.1)
                  refine ⟨by simp, .inl ⟨_, _, rfl, run_takeDeferred t1, ?_⟩⟩
                  refine ⟨by simp, .inl ⟨_, _, rfl, run_takeDeferred t3, ?_⟩⟩
                  refine ⟨.bool true, ?_, rfl, hB3⟩
                  simp only [results, hresOrder]
                  go_simp
                case body2 =>
                  rintro l' pre x Bx X - ⟨hpre, hbX, hnX, hcn, hfn, hKX, hsz⟩ hen
                  have hmx : Try.prog.follows .mixedOrders = true := by kernel_rfl
                  by_cases hlt : pre.length < Y.length
                  · obtain ⟨hk1, hcs⟩ := HE2.out X hbX
                    obtain ⟨b, off, hav, hc⟩ := hcs pre.length hlt
                    rw [hav] at hk1
                    have hli : (pre.length : Int) < (Y.length : Int) := by omega
                    have hlg : ¬ (Y.length : Int) ≤ (pre.length : Int) := by omega
                    have hlgn : ¬ Y.length ≤ pre.length := by omega
                    have hlgd : decide (Y.length ≤ pre.length) = false := decide_eq_false hlgn
                    by_cases hxy : Y.getD pre.length Ke.zero = x
                    · have HE : Hid (∀ nq, KeepsFrom U1.heap.size X ((X.drewN nq).setCell ⟨W.heap.size, 0, none⟩ (.int .i64 ((pre.length : Int) + 1))) ∧ KpW wr.heap.size (U1.heap.size + 2) X ((X.drewN nq).setCell ⟨W.heap.size, 0, none⟩ (.int .i64 ((pre.length : Int) + 1))) ∧ (pre ++ [x] <+: Y ∧ Below wr.heap.size wr ((X.drewN nq).setCell ⟨W.heap.size, 0, none⟩ (.int .i64 ((pre.length : Int) + 1))) ∧ ((X.drewN nq).setCell ⟨W.heap.size, 0, none⟩ (.int .i64 ((pre.length : Int) + 1))).cell? ⟨wr.heap.size, 0, none⟩ = some (.int .i64 R.length) ∧ ((X.drewN nq).setCell ⟨W.heap.size, 0, none⟩ (.int .i64 ((pre.length : Int) + 1))).cell? ⟨W.heap.size, 0, none⟩ = some (.int .i64 (pre ++ [x]).length) ∧ ((X.drewN nq).setCell ⟨W.heap.size, 0, none⟩ (.int .i64 ((pre.length : Int) + 1))).frozen? ⟨W.heap.size, 0, none⟩ = false ∧ ((X.drewN nq).setCell ⟨W.heap.size, 0, none⟩ (.int .i64 ((pre.length : Int) + 1))).heap[D]? = some (.deferred (some [])) ∧ U1.heap.size ≤ ((X.drewN nq).setCell ⟨W.heap.size, 0, none⟩ (.int .i64 ((pre.length : Int) + 1))).heap.size)) := fun nq => by
                        have hb9 := setN_below (n₀ := wr.heap.size) (b := W.heap.size) X nq (.int .i64 ((pre.length : Int) + 1)) (by omega)
                        have gS := grow_setC (X.drewN nq) W.heap.size 0 (.int .i64 ((pre.length : Int) + 1))
                        refine ⟨setN_keeps _ _ _ _ _, setN_kpw X nq _ (by omega) (by omega), prefix_snoc hpre hlt hxy, hbX.trans hb9, ?_, ?_, ?_, (setN_keeps 0 X nq _ _).same D _ (Nat.zero_le _) hKX rfl, Nat.le_trans hsz hb9.size⟩
                        · exact (World.cell?_of_block (w := X.drewN nq) (a := ⟨wr.heap.size, 0, none⟩) (gS.block wr.heap.size (cell_lt hnX) (fun e => by simp at e; omega))).trans hnX
                        · rw [World.cell?_setCell_same' _ _ _ (by show (X.cell? _).isSome = true; rw [hcn]; rfl)]
                          simp
                        · rw [World.frozen?_setCell]; exact hfn
                      rw [hxy] at hc
                      obtain ⟨key, ⟨xa, xb, xc, xd, xt, xm⟩⟩ := x
                      obtain ⟨k0, k1, k2, k3, k4, k5⟩ := hen
                      obtain ⟨c0, c1, c2, c3, c4, c5, c6⟩ := hc
                      simp only [Ke.r] at c0 c1 c2 c3 c4 c5 c6 k0 k1 k2 k3 k4 k5
                      clear hpre hbX hnX hKX hsz hxy hcs
                      gi_wp2
                      refine quietRound hmx (by kernel_rfl) rfl ?_
                      repeat (gi_big_quiet_step (fail))
                      refine wpQuietIn_nil ?_
                      intro _ hw'
                      obtain ⟨nq, hw''⟩ := hw'
                      subst hw''
                      gi_wp2
                      exact HE.out nq
                    · have HNP : Hid (¬ pre ++ [x] <+: Y) := fun h => hxy (prefix_last h).2
                      have HXY : Hid (Y.getD pre.length Ke.zero ≠ x) := hxy
                      generalize Y.getD pre.length Ke.zero = y at hc HXY
                      obtain ⟨key, ⟨xa, xb, xc, xd, xt, xm⟩⟩ := x
                      obtain ⟨yk, ⟨ya, yb, yc, yd, yt, ym⟩⟩ := y
                      obtain ⟨k0, k1, k2, k3, k4, k5⟩ := hen
                      obtain ⟨c0, c1, c2, c3, c4, c5, c6⟩ := hc
                      simp only [Ke.r] at c0 c1 c2 c3 c4 c5 c6 k0 k1 k2 k3 k4 k5
                      obtain ⟨q0, q1⟩ := HRW.out X hbX
                      clear hpre hbX hnX hKX hsz hxy hcs
                      by_cases hq0 : ¬ yk = key
                      · have hqb := keys_ne hq0
                        gi_wp2
                        refine quietRound hmx (by kernel_rfl) rfl ?_
                        repeat (gi_big_quiet_step (fail))
                        refine wpQuietIn_nil ?_
                        intro _ hw'
                        obtain ⟨nq, hw''⟩ := hw'
                        subst hw''
                        gi_wp2
                        exact ⟨setN_keeps _ _ _ _ _, setN_kph X _ _ (by omega), HNP.out⟩
                      · obtain rfl : yk = key := Classical.not_not.mp hq0
                        by_cases hq1 : ¬ ya = xa
                        · have hqb : (ya == xa) = false := by simpa using hq1
                          have hqc : (xa == ya) = false := by simpa using fun h => hq1 h.symm
                          gi_wp2
                          refine quietRound hmx (by kernel_rfl) rfl ?_
                          repeat (gi_big_quiet_step (fail))
                          refine wpQuietIn_nil ?_
                          intro _ hw'
                          obtain ⟨nq, hw''⟩ := hw'
                          subst hw''
                          gi_wp2
                          exact ⟨setN_keeps _ _ _ _ _, setN_kph X _ _ (by omega), HNP.out⟩
                        · obtain rfl : ya = xa := Classical.not_not.mp hq1
                          by_cases hq2 : ¬ yb = xb
                          · have hqb : (yb == xb) = false := by simpa using hq2
                            have hqc : (xb == yb) = false := by simpa using fun h => hq2 h.symm
                            gi_wp2
                            refine quietRound hmx (by kernel_rfl) rfl ?_
                            repeat (gi_big_quiet_step (fail))
                            refine wpQuietIn_nil ?_
                            intro _ hw'
                            obtain ⟨nq, hw''⟩ := hw'
                            subst hw''
                            gi_wp2
                            exact ⟨setN_keeps _ _ _ _ _, setN_kph X _ _ (by omega), HNP.out⟩
                          · obtain rfl : yb = xb := Classical.not_not.mp hq2
                            by_cases hq3 : ¬ yc = xc
                            · have hqb : (yc == xc) = false := by simpa using hq3
                              have hqc : (xc == yc) = false := by simpa using fun h => hq3 h.symm
                              gi_wp2
                              refine quietRound hmx (by kernel_rfl) rfl ?_
                              repeat (gi_big_quiet_step (fail))
                              refine wpQuietIn_nil ?_
                              intro _ hw'
                              obtain ⟨nq, hw''⟩ := hw'
                              subst hw''
                              gi_wp2
                              exact ⟨setN_keeps _ _ _ _ _, setN_kph X _ _ (by omega), HNP.out⟩
                            · obtain rfl : yc = xc := Classical.not_not.mp hq3
                              by_cases hq4 : ¬ yd = xd
                              · have hqb : (yd == xd) = false := by simpa using hq4
                                have hqc : (xd == yd) = false := by simpa using fun h => hq4 h.symm
                                gi_wp2
                                refine quietRound hmx (by kernel_rfl) rfl ?_
                                repeat (gi_big_quiet_step (fail))
                                refine wpQuietIn_nil ?_
                                intro _ hw'
                                obtain ⟨nq, hw''⟩ := hw'
                                subst hw''
                                gi_wp2
                                exact ⟨setN_keeps _ _ _ _ _, setN_kph X _ _ (by omega), HNP.out⟩
                              · obtain rfl : yd = xd := Classical.not_not.mp hq4
                                by_cases hq5 : ¬ yt = xt
                                · have hqb : (yt == xt) = false := by simpa using hq5
                                  have hqc : (xt == yt) = false := by simpa using fun h => hq5 h.symm
                                  gi_wp2
                                  refine quietRound hmx (by kernel_rfl) rfl ?_
                                  repeat (gi_big_quiet_step (fail))
                                  refine wpQuietIn_nil ?_
                                  intro _ hw'
                                  obtain ⟨nq, hw''⟩ := hw'
                                  subst hw''
                                  gi_wp2
                                  exact ⟨setN_keeps _ _ _ _ _, setN_kph X _ _ (by omega), HNP.out⟩
                                · obtain rfl : yt = xt := Classical.not_not.mp hq5
                                  have hq6 : ym ≠ xm := fun h => HXY.out (by rw [h])
                                  cases ym <;> cases xm <;> first | exact absurd rfl hq6 | skip
                                  all_goals
                                    gi_wp2
                                    refine quietRound hmx (by kernel_rfl) rfl ?_
                                    repeat (gi_big_quiet_step (fail))
                                    refine wpQuietIn_nil ?_
                                    intro _ hw'
                                    obtain ⟨nq, hw''⟩ := hw'
                                    subst hw''
                                    gi_wp2
                                    exact ⟨setN_keeps _ _ _ _ _, setN_kph X _ _ (by omega), HNP.out⟩
                  · have HNP : Hid (¬ pre ++ [x] <+: Y) := fun h => hlt (prefix_last h).1
                    obtain ⟨hk1, -⟩ := HE2.out X hbX
                    obtain ⟨q0, q1⟩ := HRW.out X hbX
                    have hlg : (Y.length : Int) ≤ (pre.length : Int) := by omega
                    have hlgn : Y.length ≤ pre.length := by omega
                    have hlgd : decide (Y.length ≤ pre.length) = true := decide_eq_true hlgn
                    clear hpre hbX hnX hKX hsz hen
                    gi_wp2
                    refine quietRound hmx (by kernel_rfl) rfl ?_
                    repeat (gi_big_quiet_step (fail))
                    refine wpQuietIn_nil ?_
                    intro _ hw'
                    obtain ⟨nq, hw''⟩ := hw'
                    subst hw''
                    gi_wp2
                    exact ⟨setN_keeps _ _ _ _ _, setN_kph X _ _ (by omega), HNP.out⟩
              case body =>
                rintro l' pre x Bx W ⟨hpre, hbW, hcn, hfn, hsz⟩ - hen
                have hmx : Try.prog.follows .mixedOrders = true := by kernel_rfl
                by_cases hlt : pre.length < R.length
                · obtain ⟨hk1, hcs⟩ := HE1.out W hbW
                  obtain ⟨b, off, hav, hc⟩ := hcs pre.length hlt
                  rw [hav] at hk1
                  have hli : (pre.length : Int) < (R.length : Int) := by omega
                  have hlg : ¬ (R.length : Int) ≤ (pre.length : Int) := by omega
                  have hlgn : ¬ R.length ≤ pre.length := by omega
                  have hlgd : decide (R.length ≤ pre.length) = false := decide_eq_false hlgn
                  by_cases hxy : R.getD pre.length Ke.zero = x
                  · have HE : Hid (∀ nq, KeepsFrom V1.heap.size W ((W.drewN nq).setCell ⟨wr.heap.size, 0, none⟩ (.int .i64 ((pre.length : Int) + 1))) ∧ Below wr.heap.size W ((W.drewN nq).setCell ⟨wr.heap.size, 0, none⟩ (.int .i64 ((pre.length : Int) + 1))) ∧ (pre ++ [x] <+: R ∧ Below wr.heap.size wr ((W.drewN nq).setCell ⟨wr.heap.size, 0, none⟩ (.int .i64 ((pre.length : Int) + 1))) ∧ ((W.drewN nq).setCell ⟨wr.heap.size, 0, none⟩ (.int .i64 ((pre.length : Int) + 1))).cell? ⟨wr.heap.size, 0, none⟩ = some (.int .i64 (pre ++ [x]).length) ∧ ((W.drewN nq).setCell ⟨wr.heap.size, 0, none⟩ (.int .i64 ((pre.length : Int) + 1))).frozen? ⟨wr.heap.size, 0, none⟩ = false ∧ V1.heap.size ≤ ((W.drewN nq).setCell ⟨wr.heap.size, 0, none⟩ (.int .i64 ((pre.length : Int) + 1))).heap.size)) := fun nq => by
                      have hb9 := setN_below (b := wr.heap.size) W nq (.int .i64 ((pre.length : Int) + 1)) (Nat.le_refl _)
                      refine ⟨setN_keeps _ _ _ _ _, hb9, prefix_snoc hpre hlt hxy, hbW.trans hb9, ?_, ?_, Nat.le_trans hsz hb9.size⟩
                      · rw [World.cell?_setCell_same' _ _ _ (by show (W.cell? _).isSome = true; rw [hcn]; rfl)]
                        simp
                      · rw [World.frozen?_setCell]; exact hfn
                    rw [hxy] at hc
                    obtain ⟨key, ⟨xa, xb, xc, xd, xt, xm⟩⟩ := x
                    obtain ⟨k0, k1, k2, k3, k4, k5⟩ := hen
                    obtain ⟨c0, c1, c2, c3, c4, c5, c6⟩ := hc
                    simp only [Ke.r] at c0 c1 c2 c3 c4 c5 c6 k0 k1 k2 k3 k4 k5
                    clear hpre hbW hsz hxy hcs
                    gi_wp2
                    refine quietRound hmx (by kernel_rfl) rfl ?_
                    repeat (gi_big_quiet_step (fail))
                    refine wpQuietIn_nil ?_
                    intro _ hw'
                    obtain ⟨nq, hw''⟩ := hw'
                    subst hw''
                    gi_wp2
                    exact HE.out nq
                  · have HNP : Hid (¬ pre ++ [x] <+: R) := fun h => hxy (prefix_last h).2
                    have HXY : Hid (R.getD pre.length Ke.zero ≠ x) := hxy
                    generalize R.getD pre.length Ke.zero = y at hc HXY
                    obtain ⟨key, ⟨xa, xb, xc, xd, xt, xm⟩⟩ := x
                    obtain ⟨yk, ⟨ya, yb, yc, yd, yt, ym⟩⟩ := y
                    obtain ⟨k0, k1, k2, k3, k4, k5⟩ := hen
                    obtain ⟨c0, c1, c2, c3, c4, c5, c6⟩ := hc
                    simp only [Ke.r] at c0 c1 c2 c3 c4 c5 c6 k0 k1 k2 k3 k4 k5
                    obtain ⟨q0, q1⟩ := HRW.out W hbW
                    clear hpre hbW hsz hxy hcs
                    by_cases hq0 : ¬ yk = key
                    · have hqb := keys_ne hq0
                      gi_wp2
                      refine quietRound hmx (by kernel_rfl) rfl ?_
                      repeat (gi_big_quiet_step (fail))
                      refine wpQuietIn_nil ?_
                      intro _ hw'
                      obtain ⟨nq, hw''⟩ := hw'
                      subst hw''
                      gi_wp2
                      exact ⟨setN_keeps _ _ _ _ _, rfl, HNP.out⟩
                    · obtain rfl : yk = key := Classical.not_not.mp hq0
                      by_cases hq1 : ¬ ya = xa
                      · have hqb : (ya == xa) = false := by simpa using hq1
                        have hqc : (xa == ya) = false := by simpa using fun h => hq1 h.symm
                        gi_wp2
                        refine quietRound hmx (by kernel_rfl) rfl ?_
                        repeat (gi_big_quiet_step (fail))
                        refine wpQuietIn_nil ?_
                        intro _ hw'
                        obtain ⟨nq, hw''⟩ := hw'
                        subst hw''
                        gi_wp2
                        exact ⟨setN_keeps _ _ _ _ _, rfl, HNP.out⟩
                      · obtain rfl : ya = xa := Classical.not_not.mp hq1
                        by_cases hq2 : ¬ yb = xb
                        · have hqb : (yb == xb) = false := by simpa using hq2
                          have hqc : (xb == yb) = false := by simpa using fun h => hq2 h.symm
                          gi_wp2
                          refine quietRound hmx (by kernel_rfl) rfl ?_
                          repeat (gi_big_quiet_step (fail))
                          refine wpQuietIn_nil ?_
                          intro _ hw'
                          obtain ⟨nq, hw''⟩ := hw'
                          subst hw''
                          gi_wp2
                          exact ⟨setN_keeps _ _ _ _ _, rfl, HNP.out⟩
                        · obtain rfl : yb = xb := Classical.not_not.mp hq2
                          by_cases hq3 : ¬ yc = xc
                          · have hqb : (yc == xc) = false := by simpa using hq3
                            have hqc : (xc == yc) = false := by simpa using fun h => hq3 h.symm
                            gi_wp2
                            refine quietRound hmx (by kernel_rfl) rfl ?_
                            repeat (gi_big_quiet_step (fail))
                            refine wpQuietIn_nil ?_
                            intro _ hw'
                            obtain ⟨nq, hw''⟩ := hw'
                            subst hw''
                            gi_wp2
                            exact ⟨setN_keeps _ _ _ _ _, rfl, HNP.out⟩
                          · obtain rfl : yc = xc := Classical.not_not.mp hq3
                            by_cases hq4 : ¬ yd = xd
                            · have hqb : (yd == xd) = false := by simpa using hq4
                              have hqc : (xd == yd) = false := by simpa using fun h => hq4 h.symm
                              gi_wp2
                              refine quietRound hmx (by kernel_rfl) rfl ?_
                              repeat (gi_big_quiet_step (fail))
                              refine wpQuietIn_nil ?_
                              intro _ hw'
                              obtain ⟨nq, hw''⟩ := hw'
                              subst hw''
                              gi_wp2
                              exact ⟨setN_keeps _ _ _ _ _, rfl, HNP.out⟩
                            · obtain rfl : yd = xd := Classical.not_not.mp hq4
                              by_cases hq5 : ¬ yt = xt
                              · have hqb : (yt == xt) = false := by simpa using hq5
                                have hqc : (xt == yt) = false := by simpa using fun h => hq5 h.symm
                                gi_wp2
                                refine quietRound hmx (by kernel_rfl) rfl ?_
                                repeat (gi_big_quiet_step (fail))
                                refine wpQuietIn_nil ?_
                                intro _ hw'
                                obtain ⟨nq, hw''⟩ := hw'
                                subst hw''
                                gi_wp2
                                exact ⟨setN_keeps _ _ _ _ _, rfl, HNP.out⟩
                              · obtain rfl : yt = xt := Classical.not_not.mp hq5
                                have hq6 : ym ≠ xm := fun h => HXY.out (by rw [h])
                                cases ym <;> cases xm <;> first | exact absurd rfl hq6 | skip
                                all_goals
                                  gi_wp2
                                  refine quietRound hmx (by kernel_rfl) rfl ?_
                                  repeat (gi_big_quiet_step (fail))
                                  refine wpQuietIn_nil ?_
                                  intro _ hw'
                                  obtain ⟨nq, hw''⟩ := hw'
                                  subst hw''
                                  gi_wp2
                                  exact ⟨setN_keeps _ _ _ _ _, rfl, HNP.out⟩
                · have HNP : Hid (¬ pre ++ [x] <+: R) := fun h => hlt (prefix_last h).1
                  obtain ⟨hk1, -⟩ := HE1.out W hbW
                  obtain ⟨q0, q1⟩ := HRW.out W hbW
                  have hlg : (R.length : Int) ≤ (pre.length : Int) := by omega
                  have hlgn : R.length ≤ pre.length := by omega
                  have hlgd : decide (R.length ≤ pre.length) = true := decide_eq_true hlgn
                  clear hpre hbW hsz hen
                  gi_wp2
                  refine quietRound hmx (by kernel_rfl) rfl ?_
                  repeat (gi_big_quiet_step (fail))
                  refine wpQuietIn_nil ?_
                  intro _ hw'
                  obtain ⟨nq, hw''⟩ := hw'
                  subst hw''
                  gi_wp2
                  exact ⟨setN_keeps _ _ _ _ _, rfl, HNP.out⟩
            | succ gk1 =>
              have HBX : Hid (Below w2.heap.size w2 wr) := by
                obtain ⟨v1, r1, v2, r2, h⟩ := HX.out
                exact below_step' HB6.out h.bel
              obtain ⟨b, off, hbl, rfl, hc⟩ := HRC.out wr m HBX.out (by omega)
              have HCX : Hid (∀ u, Below w2.heap.size w2 u → Kr.CellsAt u b (off + m * 7) (L.getD m Ke.zero).r) := fun u hu => by
                obtain ⟨b', off', _, e, hc'⟩ := HRC.out u m hu (by omega)
                cases e
                exact hc'
              have hmi : (m : Int) < (L.length : Int) := by omega
              have hky := HKY.out m
              have HTK : Hid (L.take (m + 1) = L.take m ++ [L.getD m Ke.zero]) := takeK (by omega)
              have HTL : Hid ((L.take m).length ≤ m) := by unfold Hid; rw [List.length_take]; omega
              generalize L.getD m Ke.zero = x at hc HCX hky HTK
              have HBL : Hid (∀ u, Calls Try.prog 21 #[.string x.key, .string lo] u fun e w' => e = .returned (.bool (decide (kc x.key lo = -1))) ∧ ∃ n, w' = u.drewN n) := fun u => belowQ x.key lo u hky hlo
              have HBH : Hid (∀ u, Calls Try.prog 21 #[.string x.key, .string hi] u fun e w' => e = .returned (.bool (decide (kc x.key hi = -1))) ∧ ∃ n, w' = u.drewN n) := fun u => belowQ x.key hi u hky hhi
              obtain ⟨key, ⟨xa, xb, xc, xd, xt, xm⟩⟩ := x
              simp only [Ke.r] at hc HCX HBL HBH
              obtain ⟨c0, -, -, -, -, -, -⟩ := hc
              simp only at c0
              go_upto_region 31 with fail
              go_cut [175] from 152 to 202 (fun s175 wx => s175 = .bool (rngB lo hi ⟨key, ⟨xa, xb, xc, xd, xt, xm⟩⟩) ∧ ∃ n, wx = wr.drewN n)
              case first =>
                clear HX HCX HTK HTL
                obtain ⟨A, hA⟩ : ∃ A, decide (kc key lo = -1) = A := ⟨_, rfl⟩
                obtain ⟨B, hB⟩ : ∃ B, decide (kc key hi = -1) = B := ⟨_, rfl⟩
                have HRB : Hid (rngB lo hi ⟨key, ⟨xa, xb, xc, xd, xt, xm⟩⟩ = (!A && (decide (hi.size = 0) || B))) := by
                  unfold Hid rngB
                  rw [← hA, ← hB]
                  simp
                rw [hA] at HBL
                rw [hB] at HBH
                clear hA hB
                cases A with
                | true =>
                  go_wp2_with (go_at_call 21; refine (HBL.out _).mono ?_; rintro e wq ⟨rfl, nq, rfl⟩)
                  go_meet
                  case rel => exact ⟨by rw [HRB.out]; rfl, _, rfl⟩
                | false =>
                  by_cases hH : hi.size = 0
                  · have hhe : hi = ⟨#[]⟩ := by
                      have h2 : hi.data = #[] := Array.eq_empty_of_size_eq_zero hH
                      cases hi
                      simpa using h2
                    have hte : (hi.toList == (⟨#[]⟩ : ByteArray).toList) = true := by rw [hhe]; simp
                    have hti : hi.toList.isEmpty = true := by rw [hhe, ByteArray.toList_eq]; rfl
                    rw [decide_eq_true hH] at HRB
                    clear hH hhe HBH
                    go_wp2_with (go_at_call 21; refine (HBL.out _).mono ?_; rintro e wq ⟨rfl, nq, rfl⟩)
                    go_meet
                    case rel => exact ⟨by rw [HRB.out]; rfl, _, rfl⟩
                  · have hti : hi.toList.isEmpty = false := by
                      rw [ByteArray.toList_eq]
                      have h3 : hi.data.toList ≠ [] := fun h => hH (by show hi.data.size = 0; rw [← Array.length_toList, h]; rfl)
                      cases h4 : hi.data.toList with
                      | nil => exact absurd h4 h3
                      | cons _ _ => rfl
                    have hte : (hi.toList == (⟨#[]⟩ : ByteArray).toList) = false := by
                      rw [ByteArray.toList_eq, ByteArray.toList_eq]
                      have h3 : hi.data.toList ≠ [] := fun h => hH (by show hi.data.size = 0; rw [← Array.length_toList, h]; rfl)
                      cases h4 : hi.data.toList with
                      | nil => exact absurd h4 h3
                      | cons _ _ => rfl
                    rw [decide_eq_false hH] at HRB
                    clear hH
                    cases B with
                    | true =>
                      go_wp2_with fail
                      refine (HBL.out _).mono ?_
                      rintro e wq ⟨rfl, nq, rfl⟩
                      go_wp2_with fail
                      refine (HBH.out _).mono ?_
                      rintro e wp ⟨rfl, np, rfl⟩
                      go_wp2_with fail
                      go_meet
                      case rel => exact ⟨by rw [HRB.out]; rfl, by first | exact ⟨_, rfl⟩ | exact dn2 _ _ _⟩
                    | false =>
                      go_wp2_with fail
                      refine (HBL.out _).mono ?_
                      rintro e wq ⟨rfl, nq, rfl⟩
                      go_wp2_with fail
                      refine (HBH.out _).mono ?_
                      rintro e wp ⟨rfl, np, rfl⟩
                      go_wp2_with fail
                      go_meet
                      case rel => exact ⟨by rw [HRB.out]; rfl, by first | exact ⟨_, rfl⟩ | exact dn2 _ _ _⟩
              case rest =>
                obtain ⟨rfl, n31, hwc⟩ := hcut
                clear HBL HBH c0
                have HXc : Hid (∃ v1 r1 v2 r2, Bx2 w6 wc (rngL lo hi (L.take m)) ((L.take m).filter (begB p)) v1 r1 v2 r2) := by
                  obtain ⟨v1, r1, v2, r2, h⟩ := HX.out
                  exact ⟨v1, r1, v2, r2, h.later (by rw [hwc]; exact below_drewN (Below.refl _ _) _)⟩
                clear hwc HX HBX
                obtain ⟨xx, hxx⟩ : ∃ xx : Ke, xx = ⟨key, ⟨xa, xb, xc, xd, xt, xm⟩⟩ := ⟨_, rfl⟩
                rw [← hxx] at HTK ⊢
                obtain ⟨rb, hrb⟩ : ∃ rb, rngB lo hi xx = rb := ⟨_, rfl⟩
                rw [hrb]
                go_upto_if 175 with fail
                go_cut [] from 152 to 202 (fun wx => Hid (∃ v1 r1 v2 r2, Bx2 w6 wx (rngL lo hi (L.take (m + 1))) ((L.take m).filter (begB p)) v1 r1 v2 r2))
                case first =>
                  cases rb with
                  | false =>
                    have HN : Hid (∃ v1 r1 v2 r2, Bx2 w6 wc (rngL lo hi (L.take (m + 1))) ((L.take m).filter (begB p)) v1 r1 v2 r2) := by
                      unfold Hid
                      rw [HTK.out, rngL_app, rngL_cons, if_neg (by rw [hrb]; decide)]
                      simpa [rngL] using HXc.out
                    clear HXc hrb HTK
                    go_wp2_with fail
                    go_meet
                    case rel => exact HN.out
                  | true =>
                    have HN : Hid (rngL lo hi (L.take (m + 1)) = rngL lo hi (L.take m) ++ [xx]) := by
                      unfold Hid
                      rw [HTK.out, rngL_app, rngL_cons, if_pos hrb]
                      simp [rngL]
                    have HLE : Hid ((rngL lo hi (L.take m)).length ≤ m) := Nat.le_trans (List.length_filter_le ..) HTL.out
                    clear HTK hrb HTL
                    obtain ⟨v1, r1, v2, r2, hx⟩ := HXc.out
                    have HX1 : Hid (Bx2 w6 wc (rngL lo hi (L.take m)) ((L.take m).filter (begB p)) v1 r1 v2 r2) := hx
                    obtain ⟨e0, e1, e2, e3, e4, e5, e6⟩ := HCX.out wc (below_step' HB6.out hx.bel)
                    have k1 := hx.c1
                    have k2 := hx.f1
                    simp only at e0 e1 e2 e3 e4 e5 e6
                    clear HXc hx
                    obtain ⟨a3, c3, rfl, -, -⟩ := HX1.out.o1.shape
                    obtain ⟨wa, hwa⟩ : ∃ wa, wc.drew.alloc (.cells #[.string key, .int .i64 xa, .int .i64 xb, .int .i64 xc, .int .i64 xd, .int .i64 xt, .bool xm] 28) = wa := ⟨_, rfl⟩
                    have hba : Below wc.heap.size wc wa := by rw [← hwa]; exact (Below.drew (Below.refl _ _)).alloc (Nat.le_refl _) _
                    have HSR1 : Hid (Src Try.prog 7 24 (.slice (some ⟨wc.heap.size, 0, none⟩) 1 1) [xx.r].length (kcells [xx.r]) wa) := by
                      rw [← hwa, hxx]
                      exact src_kr wc.drew ⟨key, ⟨xa, xb, xc, xd, xt, xm⟩⟩
                    have HXA : Hid (Bx2 w6 wa (rngL lo hi (L.take m)) ((L.take m).filter (begB p)) (.slice a3 ((rngL lo hi (L.take m)).map Ke.r).length c3) r1 v2 r2) := HX1.out.later hba
                    obtain ⟨n1, hn1⟩ : ∃ n1, ((rngL lo hi (L.take m)).map Ke.r).length = n1 := ⟨_, rfl⟩
                    have hn2 : n1 ≤ 2199023255500 := by
                      have := HLE.out
                      rw [List.length_map] at hn1
                      omega
                    have hka : wa.cell? ⟨w6.heap.size, 0, none⟩ = some (.slice a3 n1 c3) := by
                      rw [← hn1]; exact HXA.out.c1
                    rw [hn1] at HXA k1
                    have HN1 : Hid (((rngL lo hi (L.take m)).map Ke.r).length = n1) := hn1
                    have hkd : (wc.drew.alloc (.cells #[.string key, .int .i64 xa, .int .i64 xb, .int .i64 xc, .int .i64 xd, .int .i64 xt, .bool xm] 28)).cell? ⟨w6.heap.size, 0, none⟩ = some (.slice a3 n1 c3) := by
                      rw [hwa]; exact hka
                    clear hn1 HX1
                    go_upto_region 32 with fail
                    go_region_law (refine step_append_kr rfl (.tmp 176) (.tmp 181) rfl (.slice a3 n1 c3) (.slice (some ⟨wc.heap.size, 0, none⟩) 1 1) ((rngL lo hi (L.take m)).map Ke.r) [xx.r] r1 (by first | rfl | simp [Act.eval, Act.put]) (by first | rfl | simp [Act.eval, Act.put]) (by first | exact HXA.out.o1 | (rw [hwa]; exact HXA.out.o1)) (by first | exact HSR1.out | (rw [hwa]; exact HSR1.out)) (by rw [HN1.out]; simp; omega) (.inr (by simp)) ?_
                                   try rw [hwa]
                                   intro v7 w7 g7 ho7 hg7 hr7
                                   obtain ⟨q1, q2, q3⟩ := HXA.out.app1 ho7 hg7 hr7
                                   have HQ : Hid (Bx2 w6 (w7.setCell ⟨w6.heap.size, 0, none⟩ v7) (rngL lo hi (L.take m) ++ [xx]) ((L.take m).filter (begB p)) v7 (some g7) v2 r2) := q3
                                   obtain ⟨a7, c7, rfl, -, -⟩ := ho7.shape
                                   clear ho7 hg7 hr7 q3)
                    all_goals
                      go_wp2_with fail
                      go_meet
                      case rel => exact ⟨_, _, _, _, by rw [HN.out]; have hq := HQ.out; simp only [List.length_append, List.length_map, List.length_cons, List.length_nil, Nat.zero_add] at hq; exact hq⟩
                case rest =>
                  have HXd := hcut
                  clear hcut HXc hrb
                  obtain ⟨bb, hbb⟩ : ∃ bb, begB p xx = bb := ⟨_, rfl⟩
                  have HBB : Hid (begB p xx = bb) := hbb
                  clear hbb
                  go_upto_region 33 with fail
                  go_cut [195] from 152 to 202 (fun s195 wx => s195 = .bool bb ∧ wx = wc)
                  case first =>
                    clear HXd HTK HTL HCX
                    by_cases hsz : p.size ≤ key.size
                    · have hbe : ((key.extract 0 p.size).toList == p.toList) = bb := by
                        rw [beg_eq (e := ⟨xa, xb, xc, xd, xt, xm⟩) hsz, ← hxx]; exact HBB.out
                      have hszi : (p.size : Int) ≤ (key.size : Int) := by omega
                      clear HBB hxx
                      go_wp2_with fail
                      go_meet
                      case rel => exact ⟨by first | rfl | rw [hbe], rfl⟩
                    · have hbe : bb = false := by
                        rw [← HBB.out, hxx]; exact beg_short (by omega)
                      have hszi : ¬ (p.size : Int) ≤ (key.size : Int) := by omega
                      have hszd : decide ((p.size : Int) ≤ (key.size : Int)) = false := decide_eq_false hszi
                      have hszn : decide (p.size ≤ key.size) = false := decide_eq_false hsz
                      subst hbe
                      clear HBB hxx
                      go_wp2_with fail
                      go_meet
                      case rel => exact ⟨rfl, rfl⟩
                  case rest =>
                    obtain ⟨rfl, hwe⟩ := hcut
                    subst hwe
                    cases bb with
                    | false =>
                      have HN : Hid (∃ v1 r1 v2 r2, Bx2 w6 wc (rngL lo hi (L.take (m + 1))) ((L.take (m + 1)).filter (begB p)) v1 r1 v2 r2) := by
                        have e : (L.take (m + 1)).filter (begB p) = (L.take m).filter (begB p) := by
                          rw [HTK.out, List.filter_append, List.filter_cons_of_neg (by rw [HBB.out]; decide)]
                          simp
                        unfold Hid
                        rw [e]
                        exact HXd.out
                      clear HXd HTK HBB
                      go_wp2
                      go_roundg gk1
                      case rel => exact ⟨m + 1, by omega, by go_num, HN.out⟩
                      case measure => exact Nat.lt_succ_self _
                    | true =>
                      have HN : Hid ((L.take (m + 1)).filter (begB p) = (L.take m).filter (begB p) ++ [xx]) := by
                        unfold Hid
                        rw [HTK.out, List.filter_append, List.filter_cons_of_pos (by rw [HBB.out])]
                        simp
                      have HLE : Hid (((L.take m).filter (begB p)).length ≤ m) := Nat.le_trans (List.length_filter_le ..) HTL.out
                      clear HTK HBB HTL
                      obtain ⟨v1, r1, v2, r2, hx⟩ := HXd.out
                      have HX1 : Hid (Bx2 w6 wc (rngL lo hi (L.take (m + 1))) ((L.take m).filter (begB p)) v1 r1 v2 r2) := hx
                      obtain ⟨e0, e1, e2, e3, e4, e5, e6⟩ := HCX.out wc (below_step' HB6.out hx.bel)
                      have k1 := hx.c2
                      have k2 := hx.f2
                      simp only at e0 e1 e2 e3 e4 e5 e6
                      clear HXd hx
                      obtain ⟨a3, c3, rfl, -, -⟩ := HX1.out.o2.shape
                      obtain ⟨wa, hwa⟩ : ∃ wa, wc.drew.alloc (.cells #[.string key, .int .i64 xa, .int .i64 xb, .int .i64 xc, .int .i64 xd, .int .i64 xt, .bool xm] 28) = wa := ⟨_, rfl⟩
                      have hba : Below wc.heap.size wc wa := by rw [← hwa]; exact (Below.drew (Below.refl _ _)).alloc (Nat.le_refl _) _
                      have HSR1 : Hid (Src Try.prog 7 24 (.slice (some ⟨wc.heap.size, 0, none⟩) 1 1) [xx.r].length (kcells [xx.r]) wa) := by
                        rw [← hwa, hxx]
                        exact src_kr wc.drew ⟨key, ⟨xa, xb, xc, xd, xt, xm⟩⟩
                      have HXA : Hid (Bx2 w6 wa (rngL lo hi (L.take (m + 1))) ((L.take m).filter (begB p)) v1 r1 (.slice a3 (((L.take m).filter (begB p)).map Ke.r).length c3) r2) := HX1.out.later hba
                      obtain ⟨n1, hn1⟩ : ∃ n1, (((L.take m).filter (begB p)).map Ke.r).length = n1 := ⟨_, rfl⟩
                      have hn2 : n1 ≤ 2199023255500 := by
                        have := HLE.out
                        rw [List.length_map] at hn1
                        omega
                      have hka : wa.cell? ⟨w6.heap.size + 1, 0, none⟩ = some (.slice a3 n1 c3) := by
                        rw [← hn1]; exact HXA.out.c2
                      rw [hn1] at HXA k1
                      have HN1 : Hid ((((L.take m).filter (begB p)).map Ke.r).length = n1) := hn1
                      clear hn1 HX1
                      go_upto_region 34 with fail
                      go_region_law (refine step_append_kr rfl (.tmp 196) (.tmp 201) rfl (.slice a3 n1 c3) (.slice (some ⟨wc.heap.size, 0, none⟩) 1 1) (((L.take m).filter (begB p)).map Ke.r) [xx.r] r2 (by first | rfl | simp [Act.eval, Act.put]) (by first | rfl | simp [Act.eval, Act.put]) (by first | exact HXA.out.o2 | (rw [hwa]; exact HXA.out.o2)) (by first | exact HSR1.out | (rw [hwa]; exact HSR1.out)) (by rw [HN1.out]; simp; omega) (.inr (by simp)) ?_
                                     try rw [hwa]
                                     intro v7 w7 g7 ho7 hg7 hr7
                                     obtain ⟨q1, q2, q3⟩ := HXA.out.app2 ho7 hg7 hr7
                                     have HQ : Hid (Bx2 w6 (w7.setCell ⟨w6.heap.size + 1, 0, none⟩ v7) (rngL lo hi (L.take (m + 1))) ((L.take m).filter (begB p) ++ [xx]) v1 r1 v7 (some g7)) := q3
                                     obtain ⟨a7, c7, rfl, -, -⟩ := ho7.shape
                                     clear ho7 hg7 hr7 q3)
                      all_goals
                        go_wp2
                        go_roundg gk1
                        case rel => exact ⟨m + 1, by omega, by go_num, _, _, _, _, by rw [HN.out]; have hq := HQ.out; simp only [List.length_append, List.length_map, List.length_cons, List.length_nil, Nat.zero_add] at hq; exact hq⟩
                        case measure => exact Nat.lt_succ_self _
        | succ gk1 =>
          obtain ⟨b, off, hbl, rfl, hc⟩ := HCE.out wr m (below_step' HBW2.out HB.out) (by omega)
          have HCX : Hid (∀ u, Below w2.heap.size w2 u → Kr.CellsAt u b (off + m * 7) (st.getD m Kr.zero)) := fun u hu => by
            obtain ⟨b', off', _, e, hc'⟩ := HCE.out u m (below_step' HBW2.out hu) (by omega)
            cases e
            exact hc'
          have hmi : (m : Int) < (st.length : Int) := by omega
          have hky := (HOK.out m (by omega)).key
          have HFK := HFD.out m (by omega)
          generalize st.getD m Kr.zero = x at hc HCX hky HFK
          obtain ⟨key, xa, xb, xc, xd, xt, xm⟩ := x
          simp only at hc HCX hky HFK
          have HR : Hid (∀ u, Below w2.heap.size w2 u → Calls Try.prog 23 #[.pointer (some ⟨gd, 0, none⟩), .string key] u fun e w' => e = .returned (.int .i64 (rankL key L : Nat)) ∧ Below u.heap.size u w') := fun u hu => HRK.out u key hu hky
          have HGD : Hid (∀ u, Calls Try.prog 11 #[.string key] u fun e w' => e = .returned (.bool (okKey key)) ∧ w' = u) := fun u => goodOf key u hky
          obtain ⟨c0, -, -, -, -, -, -⟩ := hc
          simp only at c0
          go_wp2_with fail
          refine (HR.out wr HB.out).mono ?_
          rintro e w3 ⟨rfl, hb3⟩
          have HB3 : Hid (Below w2.heap.size w2 w3) := below_step' HB.out hb3
          clear hb3 c0
          obtain ⟨c0, -, -, -, -, -, -⟩ := HCX.out w3 HB3.out
          simp only at c0
          cases hok : okKey key with
          | true =>
            rw [hok] at HGD
            obtain ⟨hr1, hr2⟩ := rank_found HSR.out (HFK hok)
            obtain ⟨r, hr⟩ : ∃ r, rankL key L = r := ⟨_, rfl⟩
            rw [hr] at hr1 hr2
            obtain ⟨b1, off1, hbl1, rfl, hc1⟩ := HRC.out w3 r HB3.out hr1
            obtain ⟨d0, -, -, -, -, -, -⟩ := hc1
            have hri : (r : Int) < (L.length : Int) := by omega
            simp only [Ke.r, hr2] at d0
            rw [hr]
            clear hr hr2 HFK HR hky
            go_wp2
            go_quiet ((go_at_call 11; exact Calls.quiet_of_same (HGD.out _)))
            have HB4 : Hid (Below w2.heap.size w2 (w3.drewN nq)) := below_drewN HB3.out _
            go_wp2
            go_roundg gk1
            case rel => exact ⟨m + 1, by omega, by go_num, HB4.out⟩
            case measure => exact Nat.lt_succ_self _
          | false =>
            rw [hok] at HGD
            clear HFK HR hky
            go_wp2
            go_quiet ((go_at_call 11; exact Calls.quiet_of_same (HGD.out _)))
            have HB4 : Hid (Below w2.heap.size w2 (w3.drewN nq)) := below_drewN HB3.out _
            go_wp2
            go_roundg gk1
            case rel => exact ⟨m + 1, by omega, by go_num, HB4.out⟩
            case measure => exact Nat.lt_succ_self _
    | succ gk1 =>
      obtain ⟨b, off, hbl, rfl, hc⟩ := HRC.out wr m HB.out (by omega)
      have HCX : Hid (∀ u, Below w2.heap.size w2 u → Kr.CellsAt u b (off + m * 7) (L.getD m Ke.zero).r) := fun u hu => by
        obtain ⟨b', off', _, e, hc'⟩ := HRC.out u m hu (by omega)
        cases e
        exact hc'
      have hmi : (m : Int) < (L.length : Int) := by omega
      have HN : Hid (∀ u, Below w2.heap.size w2 u → Calls Try.prog 22 #[.pointer (some ⟨gd, 0, none⟩), .int .i64 m] u fun e w' => e = .returned (.tuple #[(L.getD m Ke.zero).v, .bool true]) ∧ Below u.heap.size u w') := fun u hu => by
        have h1 := HNT.out u m hu (by unfold I64; omega)
        rw [nth_at (by omega)] at h1
        exact h1
      have HR : Hid (∀ u, Below w2.heap.size w2 u → Calls Try.prog 23 #[.pointer (some ⟨gd, 0, none⟩), .string (L.getD m Ke.zero).key] u fun e w' => e = .returned (.int .i64 m) ∧ Below u.heap.size u w') := fun u hu => by
        have h1 := HRK.out u (L.getD m Ke.zero).key hu (HKY.out m)
        rw [rank_at HSR.out (by omega)] at h1
        exact h1
      have hky := HKY.out m
      by_cases hm0 : m = 0
      · subst hm0
        have hz : ((0 : Nat) : Int) = 0 := rfl
        rw [hz] at hmi HN HR
        rw [hz]
        clear hz
        generalize L.getD 0 Ke.zero = x at hc HCX HN HR hky
        obtain ⟨key, ⟨xa, xb, xc, xd, xt, xm⟩⟩ := x
        simp only [Ke.r] at hc HCX HN HR
        obtain ⟨c0, c1, c2, c3, c4, c5, c6⟩ := hc
        simp only [Nat.zero_mul, Nat.add_zero, Nat.zero_add] at c0 c1 c2 c3 c4 c5 c6
        go_wp2
        go_quiet (fail)
        obtain ⟨w3, hw3⟩ : ∃ w3, wr.drewN nq = w3 := ⟨_, rfl⟩
        have HB3 : Hid (Below w2.heap.size w2 w3) := by rw [← hw3]; exact below_drewN HB.out _
        rw [hw3]
        obtain ⟨e0, e1, e2, e3, e4, e5, e6⟩ := HCX.out w3 HB3.out
        simp only [Nat.zero_mul, Nat.add_zero, Nat.zero_add] at e0 e1 e2 e3 e4 e5 e6
        clear c0 c1 c2 c3 c4 c5 c6 hw3
        go_wp2_with fail
        refine (HN.out w3 HB3.out).mono ?_
        rintro e w4 ⟨rfl, hb4⟩
        obtain ⟨w5, hw5⟩ : ∃ w5, w4.alloc (.cells #[.string key, .int .i64 xa, .int .i64 xb, .int .i64 xc, .int .i64 xd, .int .i64 xt, .bool xm] 28) = w5 := ⟨_, rfl⟩
        have hb45 : Below w4.heap.size w4 w5 := by rw [← hw5]; exact (Below.refl _ _).alloc (Nat.le_refl _) _
        have HB5 : Hid (Below w2.heap.size w2 w5) := below_step' HB3.out (below_step' hb4 hb45)
        have HX5 : Hid (KeAt w5 w4.heap.size ⟨key, ⟨xa, xb, xc, xd, xt, xm⟩⟩) := by rw [← hw5]; exact KeAt.new w4 ⟨key, ⟨xa, xb, xc, xd, xt, xm⟩⟩
        clear e0 e1 e2 e3 e4 e5 e6 hb4 hb45
        obtain ⟨g0, g1, g2, g3, g4, g5, g6⟩ := HX5.out
        obtain ⟨e0, e1, e2, e3, e4, e5, e6⟩ := HCX.out w5 HB5.out
        simp only [Nat.zero_mul, Nat.add_zero, Nat.zero_add] at g0 g1 g2 g3 g4 g5 g6 e0 e1 e2 e3 e4 e5 e6
        go_wp2
        go_region_held3 (fun w' => w'.cell? ⟨b, off, none⟩ = some (.string key) ∧ w'.cell? ⟨b, off + 1, none⟩ = some (.int .i64 xa) ∧ w'.cell? ⟨b, off + 2, none⟩ = some (.int .i64 xb) ∧ w'.cell? ⟨b, off + 3, none⟩ = some (.int .i64 xc) ∧ w'.cell? ⟨b, off + 4, none⟩ = some (.int .i64 xd) ∧ w'.cell? ⟨b, off + 5, none⟩ = some (.int .i64 xt) ∧ w'.cell? ⟨b, off + 6, none⟩ = some (.bool xm) ∧ w'.cell? ⟨w4.heap.size, 0, none⟩ = some (.string key) ∧ w'.cell? ⟨w4.heap.size, 1, none⟩ = some (.int .i64 xa) ∧ w'.cell? ⟨w4.heap.size, 2, none⟩ = some (.int .i64 xb) ∧ w'.cell? ⟨w4.heap.size, 3, none⟩ = some (.int .i64 xc) ∧ w'.cell? ⟨w4.heap.size, 4, none⟩ = some (.int .i64 xd) ∧ w'.cell? ⟨w4.heap.size, 5, none⟩ = some (.int .i64 xt) ∧ w'.cell? ⟨w4.heap.size, 6, none⟩ = some (.bool xm)) (go_keep) (first
          | (go_at_call 23
             refine (HR.out _ (Below.drew HB5.out)).mono ?_
             rintro e w6 ⟨rfl, hb6⟩
             have HB6 : Hid (Below w2.heap.size w2 w6) := below_step' (Below.drew HB5.out) hb6
             rcases HX5.out.block (hb6.block _ HX5.out.lt) with ⟨j0, j1, j2, j3, j4, j5, j6⟩
             rcases HCX.out w6 HB6.out with ⟨k0, k1, k2, k3, k4, k5, k6⟩
             simp only [Nat.zero_mul, Nat.add_zero, Nat.zero_add] at j0 j1 j2 j3 j4 j5 j6 k0 k1 k2 k3 k4 k5 k6
             clear hb6))
        clear e0 e1 e2 e3 e4 e5 e6 g0 g1 g2 g3 g4 g5 g6 j0 j1 j2 j3 j4 j5 j6 k0 k1 k2 k3 k4 k5 k6 HX5
        go_wp2
        go_roundg gk1
        case rel => exact ⟨1, by omega, by go_num, HB6.out⟩
        case measure => exact Nat.lt_succ_self _
      · obtain ⟨m0, hm1⟩ : ∃ m0, m = m0 + 1 := ⟨m - 1, by omega⟩
        have HC0 : Hid (∀ u, Below w2.heap.size w2 u → Kr.CellsAt u b (off + m0 * 7) (L.getD m0 Ke.zero).r) := fun u hu => by
          obtain ⟨b', off', _, e, hc'⟩ := HRC.out u m0 hu (by omega)
          cases e
          exact hc'
        have HBL : Hid (∀ u, Calls Try.prog 21 #[.string (L.getD m0 Ke.zero).key, .string (L.getD m Ke.zero).key] u fun e w' => e = .returned (.bool true) ∧ Below u.heap.size u w') := fun u => by
          have h1 := belowOf (L.getD m0 Ke.zero).key (L.getD m Ke.zero).key u (HKY.out m0) hky
          rw [hm1, srt_step HSR.out (by omega), ← hm1] at h1
          exact h1
        generalize L.getD m Ke.zero = x at hc HCX HN HR HBL hky
        generalize L.getD m0 Ke.zero = y at HC0 HBL
        obtain ⟨key, ⟨xa, xb, xc, xd, xt, xm⟩⟩ := x
        obtain ⟨key0, ⟨ya, yb, yc, yd, yt, ym⟩⟩ := y
        simp only [Ke.r] at hc HCX HN HR HBL HC0
        obtain ⟨c0, c1, c2, c3, c4, c5, c6⟩ := hc
        obtain ⟨d0, -, -, -, -, -, -⟩ := HC0.out wr HB.out
        simp only at c0 c1 c2 c3 c4 c5 c6 d0
        have hgt : (0 : Int) < (m : Int) := by omega
        have hgn : 0 < m := by omega
        have hgdd : decide (0 < m) = true := by simpa using hgn
        have hgz : decide ((0 : Int) < (m : Int)) = true := by simpa using hgn
        have hwr : IntKind.i64.wrap ((m : Int) - 1) = (m0 : Int) := by
          have : (m : Int) - 1 = (m0 : Int) := by omega
          rw [this]
          exact i64w _ (by omega) (by omega)
        have hmi3 : (m0 : Int) < (L.length : Int) := by omega
        clear hm1
        go_wp2
        go_region_held3 (fun w' => w'.cell? ⟨b, off + m0 * 7, none⟩ = some (.string key0) ∧ w'.cell? ⟨b, off + m * 7, none⟩ = some (.string key)) (go_keep) (first
          | (go_at_call 21
             refine (HBL.out _).mono ?_
             rintro e w3 ⟨rfl, hb3⟩
             have HB3 : Hid (Below w2.heap.size w2 w3) := below_step' (Below.drew HB.out) hb3
             rcases HCX.out w3 HB3.out with ⟨e0, e1, e2, e3, e4, e5, e6⟩
             rcases HC0.out w3 HB3.out with ⟨f0, -, -, -, -, -, -⟩
             simp only at e0 e1 e2 e3 e4 e5 e6 f0
             clear hb3))
        clear c0 c1 c2 c3 c4 c5 c6 d0 HBL HC0 f0
        go_wp2_with fail
        refine (HN.out w3 HB3.out).mono ?_
        rintro e w4 ⟨rfl, hb4⟩
        obtain ⟨w5, hw5⟩ : ∃ w5, w4.alloc (.cells #[.string key, .int .i64 xa, .int .i64 xb, .int .i64 xc, .int .i64 xd, .int .i64 xt, .bool xm] 28) = w5 := ⟨_, rfl⟩
        have hb45 : Below w4.heap.size w4 w5 := by rw [← hw5]; exact (Below.refl _ _).alloc (Nat.le_refl _) _
        have HB5 : Hid (Below w2.heap.size w2 w5) := below_step' HB3.out (below_step' hb4 hb45)
        have HX5 : Hid (KeAt w5 w4.heap.size ⟨key, ⟨xa, xb, xc, xd, xt, xm⟩⟩) := by rw [← hw5]; exact KeAt.new w4 ⟨key, ⟨xa, xb, xc, xd, xt, xm⟩⟩
        clear e0 e1 e2 e3 e4 e5 e6 hb4 hb45
        obtain ⟨g0, g1, g2, g3, g4, g5, g6⟩ := HX5.out
        obtain ⟨e0, e1, e2, e3, e4, e5, e6⟩ := HCX.out w5 HB5.out
        simp only at g0 g1 g2 g3 g4 g5 g6 e0 e1 e2 e3 e4 e5 e6
        go_wp2
        go_region_held3 (fun w' => w'.cell? ⟨b, off + m * 7, none⟩ = some (.string key) ∧ w'.cell? ⟨b, off + m * 7 + 1, none⟩ = some (.int .i64 xa) ∧ w'.cell? ⟨b, off + m * 7 + 2, none⟩ = some (.int .i64 xb) ∧ w'.cell? ⟨b, off + m * 7 + 3, none⟩ = some (.int .i64 xc) ∧ w'.cell? ⟨b, off + m * 7 + 4, none⟩ = some (.int .i64 xd) ∧ w'.cell? ⟨b, off + m * 7 + 5, none⟩ = some (.int .i64 xt) ∧ w'.cell? ⟨b, off + m * 7 + 6, none⟩ = some (.bool xm) ∧ w'.cell? ⟨w4.heap.size, 0, none⟩ = some (.string key) ∧ w'.cell? ⟨w4.heap.size, 1, none⟩ = some (.int .i64 xa) ∧ w'.cell? ⟨w4.heap.size, 2, none⟩ = some (.int .i64 xb) ∧ w'.cell? ⟨w4.heap.size, 3, none⟩ = some (.int .i64 xc) ∧ w'.cell? ⟨w4.heap.size, 4, none⟩ = some (.int .i64 xd) ∧ w'.cell? ⟨w4.heap.size, 5, none⟩ = some (.int .i64 xt) ∧ w'.cell? ⟨w4.heap.size, 6, none⟩ = some (.bool xm)) (go_keep) (first
          | (go_at_call 23
             refine (HR.out _ (Below.drew HB5.out)).mono ?_
             rintro e w6 ⟨rfl, hb6⟩
             have HB6 : Hid (Below w2.heap.size w2 w6) := below_step' (Below.drew HB5.out) hb6
             rcases HX5.out.block (hb6.block _ HX5.out.lt) with ⟨j0, j1, j2, j3, j4, j5, j6⟩
             rcases HCX.out w6 HB6.out with ⟨k0, k1, k2, k3, k4, k5, k6⟩
             simp only at j0 j1 j2 j3 j4 j5 j6 k0 k1 k2 k3 k4 k5 k6
             clear hb6))
        clear e0 e1 e2 e3 e4 e5 e6 g0 g1 g2 g3 g4 g5 g6 j0 j1 j2 j3 j4 j5 j6 k0 k1 k2 k3 k4 k5 k6 HX5
        go_wp2
        go_roundg gk1
        case rel => exact ⟨m + 1, by omega, by go_num, HB6.out⟩
        case measure => exact Nat.lt_succ_self _
end Go.Proofs.Ythfnbcicpcbgjaa
