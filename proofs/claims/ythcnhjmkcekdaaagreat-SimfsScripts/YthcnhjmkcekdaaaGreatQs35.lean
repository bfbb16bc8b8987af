import Derived.Test.YthcnhjmkcekdaaaGreatQs34
namespace Go.Proofs.YthcnhjmkcekdaaaGreat
open Go.RowKit Go.Maps Plain
set_option linter.unusedVariables false
set_option linter.unusedSimpArgs false
theorem gk_trans {a b c : World} {gk : Nat} {r : Option Nat} (h : a.grownBy b (some gk)) (k : b.grownBy c r) (hr : ∀ g, r = some g → g = gk ∨ a.heap.size ≤ g) : a.grownBy c (some gk) :=
  ⟨k.os.trans h.os, k.tape.trans h.tape, k.output.trans h.output, Nat.le_trans h.size k.size, fun x hx hn => (k.block x (Nat.lt_of_lt_of_le hx h.size) (fun e => (hr x e.symm).elim (fun e2 => hn (by rw [e2])) (fun e2 => by omega))).trans (h.block x hx hn)⟩
theorem gk_later {a b c : World} {gk : Nat} (h : a.grownBy b (some gk)) (k : Below b.heap.size b c) : a.grownBy c (some gk) := gk_trans h (below_grow k none) (by simp)
/-- All that is read of a file. -/
structure InoR (w : World) (gp f M : Nat) (gF FL capF : Nat) (aS aM : Option Addr) (cS cM : Nat) (st : List (List Nat)) (gr : List Int) : Prop where
  k0 : w.cell? ⟨gp, 0, none⟩ = some (.slice (some ⟨gF, 0, none⟩) FL capF)
  fl : f < FL
  c0 : w.cell? ⟨gF, f * 2, none⟩ = some (.slice aS M cS)
  c1 : w.cell? ⟨gF, f * 2 + 1, none⟩ = some (.slice aM M cM)
  sl : st.length = M
  gl : gr.length = M
  one : 1 ≤ M
  mb : M ≤ 2199023255000
  s : ∀ j, j < M → ∃ gi a c r, aS = some ⟨gi, 0, none⟩ ∧ w.cell? ⟨gi, j, none⟩ = some (.slice a (st.getD j []).length c) ∧ Own w (.slice a (st.getD j []).length c) (st.getD j []) r
  g : ∀ j, j < M → ∃ gm, aM = some ⟨gm, 0, none⟩ ∧ w.cell? ⟨gm, j, none⟩ = some (.int .i64 (gr.getD j 0)) ∧ I64 (gr.getD j 0)
theorem RdM.ino {w : World} {gp : Nat} {k : Rk} {B : Nat → Prop} {blk : Nat → Option Nat} {vF vD : Value} {xs : List Ino} {dv : List Value} {sv tv : Nat → List Value} (h : RdM w gp k B blk vF vD xs dv sv tv) (hk : k.Ok) {f : Nat} (hf : f < k.ps.files.length) :
    ∃ gF capF aS aM cS cM, InoR w gp f (k.ps.files.getD f []).length gF k.ps.files.length capF aS aM cS cM (k.ps.files.getD f []) (k.ps.grown.getD f []) := by
  have hfx : f < xs.length := by rw [h.fl]; exact hf
  have h1 := hk.ps.one f hf
  have h2 := hk.ps.gl f hf
  obtain ⟨gF, capF, hrF, eF, d0, d1, -, -⟩ := h.F.full hfx
  rw [h.fl] at eF
  obtain ⟨aS, cS, eS, -, -⟩ := (h.S f hfx).shape
  obtain ⟨aM, cM, eM, -, -⟩ := (h.G f hfx).shape
  rw [h.sl f hfx] at eS
  rw [h.tl f hfx, h2.1] at eM
  have k0 := (rcells h.cells).1.1
  rw [eF] at k0
  rw [eS] at d0
  rw [eM] at d1
  refine ⟨gF, capF, aS, aM, cS, cM, k0, hf, d0, d1, rfl, h2.1, h1, h2.2, fun j hj => ?_, fun j hj => ?_⟩
  · obtain ⟨gF', capF', gi, cF', a, c, r, -, -, -, -, e5, -, ho, -, e9⟩ := h.state hf hj
    rw [eS] at e9
    injection e9 with q1 q2 q3
    exact ⟨gi, a, c, r, q1, e5, ho⟩
  · have hjt : j < (tv f).length := by rw [h.tl f hfx, h2.1]; exact hj
    have hget : (tv f)[j]? = some ((tv f).getD j undef) := by rw [List.getD_eq_getElem?_getD, List.getElem?_eq_getElem hjt]; rfl
    have hG := h.G f hfx
    rw [eM] at hG
    obtain ⟨gm, -, e2, e3⟩ := hG.get hget
    obtain ⟨e4, e5⟩ := h.tf f hfx j hjt
    rw [e4] at e3
    exact ⟨gm, e2, e3, e5⟩
theorem InoR.later {w w' : World} {gp f M gF FL capF : Nat} {aS aM : Option Addr} {cS cM : Nat} {st : List (List Nat)} {gr : List Int} (h : InoR w gp f M gF FL capF aS aM cS cM st gr) (hb : Below w.heap.size w w') : InoR w' gp f M gF FL capF aS aM cS cM st gr := by
  have hc : ∀ (x : Addr) (v : Value), w.cell? x = some v → w'.cell? x = some v := fun x v e => (hb.cell (cell_lt e)).trans e
  refine ⟨hc _ _ h.k0, h.fl, hc _ _ h.c0, hc _ _ h.c1, h.sl, h.gl, h.one, h.mb, fun j hj => ?_, fun j hj => ?_⟩
  · obtain ⟨gi, a, c, r, e1, e2, e3⟩ := h.s j hj
    exact ⟨gi, a, c, r, e1, hc _ _ e2, e3.later hb⟩
  · obtain ⟨gm, e1, e2, e3⟩ := h.g j hj
    exact ⟨gm, e1, hc _ _ e2, e3⟩
/-- In the midst of a crash's listing. -/
structure CrS (w : World) (gk : Nat) (pv : Value) (p : Ps) (ps ps1 : List Int) (l : List (Nm × Nat)) (v : Value) (u : World) : Prop where
  im : ImT w (gk + 1) (crL2 p l ps1) v u
  pk : ∃ jj, PkAt u gk pv ps jj ∧ ps.drop jj = stL p l ps1
set_option maxHeartbeats 8000000 in
set_option maxRecDepth 1000000 in
theorem rcrashOf {w : World} {gp : Nat} {k : Rk} {B : Nat → Prop} {blk : Nat → Option Nat} {vF vD : Value} {xs : List Ino} {dv : List Value} {sv tv : Nat → List Value} (h : RdM w gp k B blk vF vD xs dv sv tv) (hk : k.Ok) {a : Option Addr} {n c : Nat} {ps : List Int} (hps : PicksAt w (.slice a n c) ps) (hpo : PicksOff w.heap.size (.slice a n c))
    (hgw : ∀ f, f < k.ps.files.length → ∀ i, i + 1 < (k.ps.files.getD f []).length → 0 ≤ (k.ps.grown.getD f []).getD (i + 1) 0 → (((k.ps.files.getD f []).getD (i + 1) []).length : Int) = ((k.ps.files.getD f []).getD i []).length + (k.ps.grown.getD f []).getD (i + 1) 0) (hlen : ∀ f, f < k.ps.files.length → ∀ i, ((k.ps.files.getD f []).getD i []).length ≤ 70368744177664) :
    Calls Tryz.prog 21 #[.pointer (some ⟨gp, 0, none⟩), .slice a n c] w fun e w' => ∃ a N c, e = .returned (.slice a N c) ∧ ImgAt w' (.slice a N c) (crR k.ps ps) w.heap.size ∧ Below w.heap.size w w' := by
  have hd1 := hk.d1
  have hdl := hk.ps.dl
  obtain ⟨w0, hw0⟩ : ∃ w0, w.alloc (.cells #[.slice a n c, .int .i64 0] 119) = w0 := ⟨_, rfl⟩
  have hb0 : Below w.heap.size w w0 := by rw [← hw0]; exact (Below.refl _ _).alloc (Nat.le_refl _) _
  have hs0 : w0.heap.size = w.heap.size + 1 := by rw [← hw0]; simp
  have hpk0 : PkAt w0 w.heap.size (.slice a n c) ps 0 := ⟨by rw [← hw0]; show (w.heap.push _)[w.heap.size]? = _; simp, hps.cells hpo (fun b hb => hb0.block b hb), hpo, by simp⟩
  have HNX := Hid.mkR (nextOf hpk0 k.ps.dirs.length hd1 (by omega))
  have hup : upV ps (k.ps.dirs.length - 1) < k.ps.dirs.length := by have := upV_le ps (k.ps.dirs.length - 1); omega
  have HRW : Hid (∃ gD capD aL cL r, vD = .slice (some ⟨gD, 0, none⟩) k.ps.dirs.length capD ∧ w.cell? ⟨gD, upV ps (k.ps.dirs.length - 1), none⟩ = some (.slice aL (k.ps.dirs.getD (upV ps (k.ps.dirs.length - 1)) []).length cL) ∧ OwnNw w (.slice aL (k.ps.dirs.getD (upV ps (k.ps.dirs.length - 1)) []).length cL) ((k.ps.dirs.getD (upV ps (k.ps.dirs.length - 1)) []).map nwOf) r) := by
    obtain ⟨gD, capD, aL, cL, r, q1, q2, q3, -, -, -⟩ := h.row hup
    exact ⟨gD, capD, aL, cL, r, q1, q2, q3⟩
  obtain ⟨gD, capD, aL, cL, rL, eD, cD, hrowL⟩ := HRW.out
  have HROW := Hid.mkR hrowL
  have HIN : Hid (∀ x ∈ k.ps.dirs.getD (upV ps (k.ps.dirs.length - 1)) [], x.2 < k.ps.files.length) := fun x hx => hk.ps.ref _ hup x hx
  have HFI := Hid.mkR (fun f (hf : f < k.ps.files.length) => h.ino hk hf)
  have hll : (k.ps.dirs.getD (upV ps (k.ps.dirs.length - 1)) []).length ≤ 2199023255000 := hk.ps.nl _ hup
  have HGW := Hid.mkR hgw
  have HLE := Hid.mkR hlen
  have hfl := hk.ps.fl
  have c1 : w0.cell? ⟨gp, 1, none⟩ = some vD := (rcells (h.later hb0).cells).1.2.1
  have cD0 := (hb0.cell (p := ⟨gD, upV ps (k.ps.dirs.length - 1), none⟩) (cell_lt cD)).trans cD
  rw [eD] at c1
  have hgpl : gp < w.heap.size := h.gpl
  have hgDl : gD < w.heap.size := cell_lt cD
  have HCR : Hid (crR k.ps ps = crL2 k.ps (k.ps.dirs.getD (upV ps (k.ps.dirs.length - 1)) []) ps.tail) := rfl
  rw [HCR.out]
  have hupi : ((upV ps (k.ps.dirs.length - 1) : Nat) : Int) < (k.ps.dirs.length : Int) := by omega
  clear hrowL cD eD h hps hpo hpk0 hgw hlen HRW HCR
  rw [List.drop_zero] at HNX
  generalize k.ps.dirs.getD (upV ps (k.ps.dirs.length - 1)) [] = l at *
  generalize upV ps (k.ps.dirs.length - 1) = m0 at *
  generalize k.ps.dirs.length = DN at *
  go_enter Tryz.func21, Tryz.ntmps21
  go_wp2_with fail
  refine HNX.out.mono ?_
  rintro e w1 ⟨rfl, hpk1, hg1⟩
  have d1 := hg1.cell c1 (by show some gp ≠ some w.heap.size; intro e; have := Option.some.inj e; omega)
  have dD := hg1.cell cD0 (by show some gD ≠ some w.heap.size; intro e; have := Option.some.inj e; omega)
  have hbw1 : Below w.heap.size w w1 := hb0.grown hg1 hb0.size (fun g e => by cases e; exact Nat.le_refl _)
  have HC0 : Hid (CrS w w.heap.size (.slice a n c) k.ps ps ps.tail (l.take 0) (.slice none 0 0) w1) := ⟨⟨⟨[], none, fun _ => none, ⟨.inl ⟨rfl, rfl, rfl⟩, by simp [crL2], by simp [crL2], by simp, by simp, by simp, by simp⟩⟩, hbw1, by have := hg1.size; omega⟩, nxt ps 0, hpk1, by rw [nxt_tail]; rfl⟩
  clear HNX c1 cD0 hpk1 hg1 hb0 hbw1
  go_wp2
  go_loopw [8, 9] (fun v i wr => ∃ j : Nat, j ≤ l.length ∧ i = .int .i64 j ∧ Hid (CrS w w.heap.size (.slice a n c) k.ps ps ps.tail (l.take j) v wr)) (fun _ i _ => l.length - (intOf i).toNat)
  case atStart => exact ⟨0, by omega, rfl, HC0.out⟩
  case round =>
    obtain ⟨j, hj, rfl, HK⟩ := hrel
    obtain ⟨a2, N2, cap2, rfl⟩ := HK.out.im.shape
    have hbw := HK.out.im.2.1
    clear d1 dD
    by_cases hlt : j < l.length
    · have hki : (j : Int) < (l.length : Int) := by omega
      have hj0 : (0 : Int) ≤ (j : Int) := by omega
      obtain ⟨gl, rfl, rfl, d0w, d1w⟩ := row_nw HROW.out hlt
      have d1 := (hbw.cell (p := ⟨gl, j * 2 + 1, none⟩) (cell_lt d1w)).trans d1w
      have hmem : l.getD j ([], 0) ∈ l := by rw [List.getD_eq_getElem?_getD, List.getElem?_eq_getElem hlt]; exact List.getElem_mem hlt
      have hfx := HIN.out _ hmem
      obtain ⟨gF, capF, aS, aM, cS, cM, hino0⟩ := HFI.out _ hfx
      have hino := hino0.later hbw
      have HI0 := Hid.mkR hino0
      have HD0 := Hid.mkR d0w
      have HBW : Hid (∀ u, wr.grownBy u (some w.heap.size) → Below w.heap.size w u) := fun u hu => hbw.grown hu hbw.size (fun g e => by cases e; exact Nat.le_refl _)
      have HTK := Hid.mkR (crL2_snoc k.ps (l.getD j ([], 0)) (l.take j) ps.tail)
      rw [← take_getD ([], 0) hlt] at HTK
      have hgw := HGW.out _ hfx
      have hlen := HLE.out _ hfx
      have HGW1 := Hid.mkR hgw
      have HLE1 := Hid.mkR hlen
      have k0 := hino.k0
      have e0 := hino.c0
      have e1 := hino.c1
      have hM1 := hino.one
      have hMb := hino.mb
      have hfi : ((l.getD j ([], 0)).2 : Int) < (k.ps.files.length : Int) := by omega
      have hf0 : (0 : Int) ≤ ((l.getD j ([], 0)).2 : Int) := by omega
      clear hino hino0 hmem hgw hlen hfx d0w d1w
      generalize hx : l.getD j ([], 0) = x at *
      clear hx
      generalize hM : (k.ps.files.getD x.2 []).length = M at *
      clear hM
      go_wp2_with fail
      refine wp_region_noPanic ?_
      refine Till.start 12 (S := fun u => u.cell? ⟨gp, 0, none⟩ = some (.slice (some ⟨gF, 0, none⟩) k.ps.files.length capF) ∧ u.cell? ⟨gl, j * 2 + 1, none⟩ = some (.int .i64 (x.2 : Int)) ∧ u.cell? ⟨gF, x.2 * 2, none⟩ = some (.slice aS M cS) ∧ u.cell? ⟨gF, x.2 * 2 + 1, none⟩ = some (.slice aM M cM)) (by kernel_rfl) ⟨k0, d1, e0, e1⟩ (fun hHeld => ?_)
      refine' Till.take 0 rfl (by kernel_rfl) (by kernel_rfl) (by kernel_rfl) (by kernel_rfl) (fun _ _ _ h => h) (Or.inl ⟨by rfl, ?_⟩) (by assumption) ?_
      rotate_left
      · (intro w hSw; (try dsimp only at hSw); go_simp <;> with_reducible rfl)
      try simp only [Act.put, List.setIfInBounds_toArray, List.set_cons_zero, List.set_cons_succ]
      refine' Till.take 1 rfl (by kernel_rfl) (by kernel_rfl) (by kernel_rfl) (by kernel_rfl) (fun _ _ _ h => h) (Or.inl ⟨by rfl, ?_⟩) (by assumption) ?_
      rotate_left
      · (intro w hSw; (try dsimp only at hSw); go_simp <;> with_reducible rfl)
      try simp only [Act.put, List.setIfInBounds_toArray, List.set_cons_zero, List.set_cons_succ]
      refine' Till.take 2 rfl (by kernel_rfl) (by kernel_rfl) (by kernel_rfl) (by kernel_rfl) (fun _ _ _ h => h) (Or.inl ⟨by rfl, ?_⟩) (by assumption) ?_
      rotate_left
      · (intro w hSw; (try dsimp only at hSw); go_simp <;> with_reducible rfl)
      try simp only [Act.put, List.setIfInBounds_toArray, List.set_cons_zero, List.set_cons_succ]
      refine' Till.take 3 rfl (by kernel_rfl) (by kernel_rfl) (by kernel_rfl) (by kernel_rfl) (fun _ _ _ h => h) (Or.inl ⟨by rfl, ?_⟩) (by assumption) ?_
      rotate_left
      · (intro w hSw; (try dsimp only at hSw); go_simp <;> with_reducible rfl)
      try simp only [Act.put, List.setIfInBounds_toArray, List.set_cons_zero, List.set_cons_succ]
      refine' Till.take 4 rfl (by kernel_rfl) (by kernel_rfl) (by kernel_rfl) (by kernel_rfl) (fun _ _ _ h => h) (Or.inl ⟨by rfl, ?_⟩) (by assumption) ?_
      rotate_left
      · (intro w hSw; (try dsimp only at hSw); go_simp <;> with_reducible rfl)
      try simp only [Act.put, List.setIfInBounds_toArray, List.set_cons_zero, List.set_cons_succ]
      refine' Till.take 5 rfl (by kernel_rfl) (by kernel_rfl) (by kernel_rfl) (by kernel_rfl) (fun _ _ _ h => h) (Or.inl ⟨by rfl, ?_⟩) (by assumption) ?_
      rotate_left
      · (intro w hSw; (try dsimp only at hSw); go_simp <;> with_reducible rfl)
      try simp only [Act.put, List.setIfInBounds_toArray, List.set_cons_zero, List.set_cons_succ]
      refine' Till.take 6 rfl (by kernel_rfl) (by kernel_rfl) (by kernel_rfl) (by kernel_rfl) (fun _ _ _ h => h) (Or.inl ⟨by rfl, ?_⟩) (by assumption) ?_
      rotate_left
      · (intro w hSw; (try dsimp only at hSw); go_simp <;> with_reducible rfl)
      try simp only [Act.put, List.setIfInBounds_toArray, List.set_cons_zero, List.set_cons_succ]
      refine' Till.take 7 rfl (by kernel_rfl) (by kernel_rfl) (by kernel_rfl) (by kernel_rfl) (fun _ _ _ h => h) (Or.inl ⟨by rfl, ?_⟩) (by assumption) ?_
      rotate_left
      · (intro w hSw; (try dsimp only at hSw); go_simp <;> with_reducible rfl)
      try simp only [Act.put, List.setIfInBounds_toArray, List.set_cons_zero, List.set_cons_succ]
      refine' Till.take 8 rfl (by kernel_rfl) (by kernel_rfl) (by kernel_rfl) (by kernel_rfl) (fun _ _ _ h => h) (Or.inl ⟨by rfl, ?_⟩) (by assumption) ?_
      rotate_left
      · (intro w hSw; (try dsimp only at hSw); go_simp <;> with_reducible rfl)
      try simp only [Act.put, List.setIfInBounds_toArray, List.set_cons_zero, List.set_cons_succ]
      refine' Till.take 9 rfl (by kernel_rfl) (by kernel_rfl) (by kernel_rfl) (by kernel_rfl) (fun _ _ _ h => h) (Or.inl ⟨by rfl, ?_⟩) (by assumption) ?_
      rotate_left
      · (intro w hSw; (try dsimp only at hSw); go_simp <;> with_reducible rfl)
      try simp only [Act.put, List.setIfInBounds_toArray, List.set_cons_zero, List.set_cons_succ]
      refine' Till.take 10 rfl (by kernel_rfl) (by kernel_rfl) (by kernel_rfl) (by kernel_rfl) (fun _ _ _ h => h) (Or.inl ⟨by rfl, ?_⟩) (by assumption) ?_
      rotate_left
      · (intro w hSw; (try dsimp only at hSw); go_simp <;> with_reducible rfl)
      try simp only [Act.put, List.setIfInBounds_toArray, List.set_cons_zero, List.set_cons_succ]
      have hb11 : ∀ bl, Below wr.heap.size wr ((wr.alloc bl).drew) := fun bl => ⟨rfl, rfl, rfl, by show _ ≤ (wr.alloc bl).heap.size; simp, fun g hg => ((Below.refl _ wr).alloc (Nat.le_refl _) bl).block g hg⟩
      refine Till.one 11 (by kernel_rfl) rfl (fun K hK => ?_)
      go_simp
      refine hK.out _ _ ?_ (fun hHeld => ?_)
      · exact ⟨((hb11 _).cell (cell_lt k0)).trans k0, ((hb11 _).cell (cell_lt d1)).trans d1, ((hb11 _).cell (cell_lt e0)).trans e0, ((hb11 _).cell (cell_lt e1)).trans e1⟩
      clear hK K
      try simp only [Act.put, List.setIfInBounds_toArray, List.set_cons_zero, List.set_cons_succ]
      refine Till.last (by kernel_rfl) (by kernel_rfl) rfl (fun K hK => ?_)
      go_simp
      refine hK.out _ _ ?_
      clear hK K
      try simp only [Act.put, List.setIfInBounds_toArray, List.set_cons_zero, List.set_cons_succ]
      refine NoPanic.normal ?_
      have hs2 : (((wr.alloc (.cells #[.slice aS M cS, .slice aM M cM] 83)).drew).heap.size) = wr.heap.size + 1 := by show (wr.alloc _).heap.size = _; simp
      have hx2 : ((wr.alloc (.cells #[.slice aS M cS, .slice aM M cM] 83)).drew).heap[wr.heap.size]? = some (.cells #[.slice aS M cS, .slice aM M cM] 83) := by show (wr.heap.push _)[wr.heap.size]? = _; simp
      have hb2 := hb11 (.cells #[.slice aS M cS, .slice aM M cM] 83)
      clear hHeld
      clear hHeld
      clear hb11 k0 d1 e0 e1
      generalize (wr.alloc (.cells #[.slice aS M cS, .slice aM M cM] 83)).drew = w2 at *
      have G2 : wr.grownBy w2 (some w.heap.size) := below_grow hb2 _
      obtain ⟨jj, hpk, hdr⟩ := HK.out.pk
      have hgk : w.heap.size + 1 ≤ wr.heap.size := HK.out.im.2.2
      have hpk2 : PkAt w2 w.heap.size (.slice a n c) ps jj := hpk.frame (fun y hy => hb2.block y (by omega))
      have HNX := Hid.mkR (nextOf hpk2 M hM1 (by omega))
      have y0 : w2.cell? ⟨wr.heap.size, 0, none⟩ = some (.slice aS M cS) := by simp [World.cell?, hx2]
      have y1 : w2.cell? ⟨wr.heap.size, 1, none⟩ = some (.slice aM M cM) := by simp [World.cell?, hx2]
      have hsl := HI0.out.sl
      have HT1 : Hid (crL2 k.ps (l.take (j + 1)) ps.tail = crL2 k.ps (l.take j) ps.tail ++ [(x.1, (lfR (k.ps.files.getD x.2 []) (k.ps.grown.getD x.2 []) (ps.drop jj)).1)] ∧ stL k.ps (l.take (j + 1)) ps.tail = (lfR (k.ps.files.getD x.2 []) (k.ps.grown.getD x.2 []) (ps.drop jj)).2) := by rw [hdr]; exact HTK.out
      have hj1 : upV (ps.drop jj) (M - 1) < M := by have := upV_le (ps.drop jj) (M - 1); omega
      have HL : Hid (lfR (k.ps.files.getD x.2 []) (k.ps.grown.getD x.2 []) (ps.drop jj) = if upV (ps.drop jj) (M - 1) + 1 < M ∧ 0 ≤ (k.ps.grown.getD x.2 []).getD (upV (ps.drop jj) (M - 1) + 1) 0 then ((k.ps.files.getD x.2 []).getD (upV (ps.drop jj) (M - 1)) [] ++ (((k.ps.files.getD x.2 []).getD (upV (ps.drop jj) (M - 1) + 1) []).drop ((k.ps.files.getD x.2 []).getD (upV (ps.drop jj) (M - 1)) []).length).take (upV (ps.drop jj).tail ((k.ps.grown.getD x.2 []).getD (upV (ps.drop jj) (M - 1) + 1) 0).toNat), (ps.drop jj).tail.tail) else ((k.ps.files.getD x.2 []).getD (upV (ps.drop jj) (M - 1)) [], (ps.drop jj).tail)) := by unfold Hid lfR; rw [hsl]
      have hnt := nxt_tail ps jj
      clear hpk hpk2 hx2 hb2 hdr HTK hsl
      generalize k.ps.files.getD x.2 [] = st at *
      generalize k.ps.grown.getD x.2 [] = gr at *
      generalize upV (ps.drop jj) (M - 1) = j1 at *
      go_wp2_with fail
      refine HNX.out.mono ?_
      rintro e w3 ⟨rfl, hpk3, hg3⟩
      have G3 : wr.grownBy w3 (some w.heap.size) := gk_trans G2 hg3 (fun g e => .inl (by cases e; rfl))
      have hB3 := HBW.out _ G3
      have y30 := hg3.cell y0 (by show some wr.heap.size ≠ some w.heap.size; intro e; have := Option.some.inj e; omega)
      have y31 := hg3.cell y1 (by show some wr.heap.size ≠ some w.heap.size; intro e; have := Option.some.inj e; omega)
      obtain ⟨gi, a5, c5, r5, rfl, s5, o5⟩ := (HI0.out.later hB3).s j1 hj1
      have HCP := Hid.mkR (copiedR o5.bytes (by have := HLE1.out j1; omega))
      have hj1i : (j1 : Int) < (M : Int) := by omega
      have hj10 : (0 : Int) ≤ (j1 : Int) := by omega
      have hs3 := hg3.size
      clear y0 y1 hg3 HNX o5 hB3
      go_wp2_with fail
      refine HCP.out.mono ?_
      rintro e w4 ⟨a7, N7, c7, r7, rfl, hn4⟩
      have G4 := gk_later G3 hn4.below
      have y40 := (hn4.below.cell (p := ⟨wr.heap.size, 0, none⟩) (cell_lt y30)).trans y30
      have y41 := (hn4.below.cell (p := ⟨wr.heap.size, 1, none⟩) (cell_lt y31)).trans y31
      have hpk4 := hpk3.frame (fun y hy => hn4.below.block y (by have := G3.size; omega))
      have HR7 : Hid (∀ g, r7 = some g → wr.heap.size < g) := fun g e => by have := hn4.new g e; omega
      have HO7 := Hid.mkR hn4.row
      clear hn4 HCP y30 y31 s5 hpk3 G3 G2 hs3 hs2
      by_cases hz : j1 + 1 < M
      · have hzi : (j1 : Int) + 1 < (M : Int) := by omega
        obtain ⟨gm, rfl, gc, gI⟩ := (HI0.out.later (HBW.out _ G4)).g (j1 + 1) hz
        by_cases hp : 0 ≤ gr.getD (j1 + 1) 0
        · obtain ⟨zn, hzn⟩ := Int.eq_ofNat_of_zero_le hp
          rw [hzn] at gc gI
          have HL2 : Hid (lfR st gr (ps.drop jj) = (st.getD j1 [] ++ ((st.getD (j1 + 1) []).drop (st.getD j1 []).length).take (upV (ps.drop jj).tail zn), (ps.drop jj).tail.tail)) := by unfold Hid; rw [HL.out, if_pos ⟨hz, hp⟩, hzn]; rfl
          have hgr : (st.getD (j1 + 1) []).length = (st.getD j1 []).length + zn := by have := HGW1.out j1 hz hp; rw [hzn] at this; omega
          have hzb : zn ≤ 70368744177664 := by have := HLE1.out (j1 + 1); omega
          have HNX : Hid (Calls Tryz.prog 72 #[.pointer (some ⟨w.heap.size, 0, none⟩), .int .i64 ((zn : Int) + 1)] w4 fun e w' => e = .returned (.int .i64 (upV (ps.drop jj).tail zn : Int)) ∧ PkAt w' w.heap.size (.slice a n c) ps (nxt ps (nxt ps jj)) ∧ w4.grownBy w' (some w.heap.size)) := by
            have := nextOf hpk4 (zn + 1) (by omega) (by omega)
            rw [hnt] at this
            exact this
          have hut : upV (ps.drop jj).tail zn ≤ zn := upV_le _ _
          clear HL hp hzn
          go_wp2_with fail
          refine HNX.out.mono ?_
          rintro e w5 ⟨rfl, hpk5, hg5⟩
          have G5 : wr.grownBy w5 (some w.heap.size) := gk_trans G4 hg5 (fun g e => .inl (by cases e; rfl))
          have y50 := hg5.cell y40 (by show some wr.heap.size ≠ some w.heap.size; intro e; have := Option.some.inj e; omega)
          obtain ⟨gi', a6, c6, r6, hgi6, s6, o6⟩ := (HI0.out.later (HBW.out _ G5)).s (j1 + 1) hz
          cases hgi6
          obtain ⟨gi', a5, c5, r5, hgi5, s5, o5⟩ := (HI0.out.later (HBW.out _ G5)).s j1 hj1
          cases hgi5
          have hO5 : Own w5 (.slice a7 N7 c7) (st.getD j1 []) r7 := HO7.out.kept hg5 (by
            cases hr7 : r7 with
            | none => exact .inl rfl
            | some g => refine .inr (fun e => ?_); have := HR7.out g hr7; cases e; omega)
          have HO5 := Hid.mkR hO5
          have HST : Hid (Own w5 (.slice a6 (st.getD (j1 + 1) []).length c6) (st.getD (j1 + 1) []) r6) := o6
          have hl5 : (st.getD j1 []).length ≤ 70368744177664 := HLE1.out j1
          have hgil : gi < w.heap.size := by
            obtain ⟨gi', _, _, _, e1, e2, _⟩ := HI0.out.s j1 hj1
            cases e1
            exact cell_lt e2
          clear hO5 HO7 o5 hg5 y40 y41 gc gI HNX hpk4 G4 HLE1 HGW1
          rw [hgr] at s6 o6 HST
          generalize hL5 : (st.getD j1 []).length = L5 at *
          generalize hut2 : upV (ps.drop jj).tail zn = t at *
          clear hut2
          have hzi1 : (0 : Int) ≤ (L5 : Int) := by omega
          have hzi2 : (0 : Int) ≤ (t : Int) := by omega
          have hzi3 : (0 : Int) ≤ (j1 : Int) + 1 := by omega
          have hw1 : IntKind.i64.wrap ((j1 : Int) + 1) = (j1 : Int) + 1 := IntWalk.i64_in _ (by omega)
          have hw2 : IntKind.i64.wrap ((L5 : Int) + (t : Int)) = (L5 : Int) + (t : Int) := IntWalk.i64_in _ (by omega)
          have hn1 : ((j1 : Int) + 1).toNat = j1 + 1 := by omega
          have hn2 : ((L5 : Int) + (t : Int)).toNat = L5 + t := by omega
          have HPT : Hid (∀ q, BytesAt w5 q (((st.getD (j1 + 1) []).drop L5).take t) → ∀ u, Below w5.heap.size w5 u → Src Tryz.prog 1 34 q (((st.getD (j1 + 1) []).drop L5).take t).length (cellsOf (((st.getD (j1 + 1) []).drop L5).take t)) u) := fun q hq u hu => src_of Tryz.underlying34 (hq.later hu)
          have h256 : ∀ c ∈ ((st.getD (j1 + 1) []).drop L5).take t, c < 256 := fun c hc => o6.byte c (List.mem_of_mem_drop (List.mem_of_mem_take hc))
          have hkl : (((st.getD (j1 + 1) []).drop L5).take t).length = t := by rw [List.length_take, List.length_drop, hgr]; omega
          rcases o6.2 with ⟨q1, q2, q3⟩ | ⟨g6, cap6, q1, q2, q3, q4, -⟩
          · injection q1 with q1 q4 q5
            subst q1 q5
            have hdr0 : ((st.getD (j1 + 1) []).drop L5).take t = [] := List.eq_nil_of_length_eq_zero (by rw [hkl]; omega)
            have hi1 : (L5 : Int) ≤ (L5 : Int) + (t : Int) := by omega
            have hi2 : (L5 : Int) + (t : Int) ≤ 0 := by omega
            have HB := Hid.mkR (HPT.out (.slice none (L5 + t - L5) (0 - L5)) (by rw [hdr0, show L5 + t - L5 = 0 by omega, show 0 - L5 = 0 by omega]; exact BytesAt.nil _))
            go_wp2_with fail
            refine wp_region_noPanic ?_
            refine Till.start 23 (S := fun u => u.cell? ⟨wr.heap.size, 0, none⟩ = some (.slice (some ⟨gi, 0, none⟩) M cS) ∧ u.cell? ⟨gi, j1 + 1, none⟩ = some (.slice none (L5 + zn) 0) ∧ u.cell? ⟨gi, j1, none⟩ = some (.slice a5 L5 c5)) (by kernel_rfl) ⟨y50, s6, s5⟩ (fun hHeld => ?_)
            refine' Till.take 0 rfl (by kernel_rfl) (by kernel_rfl) (by kernel_rfl) (by kernel_rfl) (fun _ _ _ h => h) (Or.inl ⟨by rfl, ?_⟩) (by assumption) ?_
            rotate_left
            · (intro w hSw; (try dsimp only at hSw); go_simp <;> with_reducible rfl)
            try simp only [Act.put, List.setIfInBounds_toArray, List.set_cons_zero, List.set_cons_succ]
            refine' Till.take 1 rfl (by kernel_rfl) (by kernel_rfl) (by kernel_rfl) (by kernel_rfl) (fun _ _ _ h => h) (Or.inl ⟨by rfl, ?_⟩) (by assumption) ?_
            rotate_left
            · (intro w hSw; (try dsimp only at hSw); go_simp <;> with_reducible rfl)
            try simp only [Act.put, List.setIfInBounds_toArray, List.set_cons_zero, List.set_cons_succ]
            refine' Till.take 2 rfl (by kernel_rfl) (by kernel_rfl) (by kernel_rfl) (by kernel_rfl) (fun _ _ _ h => h) (Or.inl ⟨by rfl, ?_⟩) (by assumption) ?_
            rotate_left
            · (intro w hSw; (try dsimp only at hSw); go_simp <;> with_reducible rfl)
            try simp only [Act.put, List.setIfInBounds_toArray, List.set_cons_zero, List.set_cons_succ]
            refine' Till.take 3 rfl (by kernel_rfl) (by kernel_rfl) (by kernel_rfl) (by kernel_rfl) (fun _ _ _ h => h) (Or.inl ⟨by rfl, ?_⟩) (by assumption) ?_
            rotate_left
            · (intro w hSw; (try dsimp only at hSw); go_simp <;> with_reducible rfl)
            try simp only [Act.put, List.setIfInBounds_toArray, List.set_cons_zero, List.set_cons_succ]
            refine' Till.take 4 rfl (by kernel_rfl) (by kernel_rfl) (by kernel_rfl) (by kernel_rfl) (fun _ _ _ h => h) (Or.inl ⟨by rfl, ?_⟩) (by assumption) ?_
            rotate_left
            · (intro w hSw; (try dsimp only at hSw); go_simp <;> with_reducible rfl)
            try simp only [Act.put, List.setIfInBounds_toArray, List.set_cons_zero, List.set_cons_succ]
            refine' Till.take 5 rfl (by kernel_rfl) (by kernel_rfl) (by kernel_rfl) (by kernel_rfl) (fun _ _ _ h => h) (Or.inl ⟨by rfl, ?_⟩) (by assumption) ?_
            rotate_left
            · (intro w hSw; (try dsimp only at hSw); go_simp <;> with_reducible rfl)
            try simp only [Act.put, List.setIfInBounds_toArray, List.set_cons_zero, List.set_cons_succ]
            refine' Till.take 6 rfl (by kernel_rfl) (by kernel_rfl) (by kernel_rfl) (by kernel_rfl) (fun _ _ _ h => h) (Or.inl ⟨by rfl, ?_⟩) (by assumption) ?_
            rotate_left
            · (intro w hSw; (try dsimp only at hSw); go_simp <;> with_reducible rfl)
            try simp only [Act.put, List.setIfInBounds_toArray, List.set_cons_zero, List.set_cons_succ]
            refine' Till.take 7 rfl (by kernel_rfl) (by kernel_rfl) (by kernel_rfl) (by kernel_rfl) (fun _ _ _ h => h) (Or.inl ⟨by rfl, ?_⟩) (by assumption) ?_
            rotate_left
            · (intro w hSw; (try dsimp only at hSw); go_simp <;> with_reducible rfl)
            try simp only [Act.put, List.setIfInBounds_toArray, List.set_cons_zero, List.set_cons_succ]
            refine' Till.take 8 rfl (by kernel_rfl) (by kernel_rfl) (by kernel_rfl) (by kernel_rfl) (fun _ _ _ h => h) (Or.inl ⟨by rfl, ?_⟩) (by assumption) ?_
            rotate_left
            · (intro w hSw; (try dsimp only at hSw); go_simp <;> with_reducible rfl)
            try simp only [Act.put, List.setIfInBounds_toArray, List.set_cons_zero, List.set_cons_succ]
            refine' Till.take 9 rfl (by kernel_rfl) (by kernel_rfl) (by kernel_rfl) (by kernel_rfl) (fun _ _ _ h => h) (Or.inl ⟨by rfl, ?_⟩) (by assumption) ?_
            rotate_left
            · (intro w hSw; (try dsimp only at hSw); go_simp <;> with_reducible rfl)
            try simp only [Act.put, List.setIfInBounds_toArray, List.set_cons_zero, List.set_cons_succ]
            refine' Till.take 10 rfl (by kernel_rfl) (by kernel_rfl) (by kernel_rfl) (by kernel_rfl) (fun _ _ _ h => h) (Or.inl ⟨by rfl, ?_⟩) (by assumption) ?_
            rotate_left
            · (intro w hSw; (try dsimp only at hSw); go_simp <;> with_reducible rfl)
            try simp only [Act.put, List.setIfInBounds_toArray, List.set_cons_zero, List.set_cons_succ]
            refine' Till.take 11 rfl (by kernel_rfl) (by kernel_rfl) (by kernel_rfl) (by kernel_rfl) (fun _ _ _ h => h) (Or.inl ⟨by rfl, ?_⟩) (by assumption) ?_
            rotate_left
            · (intro w hSw; (try dsimp only at hSw); go_simp <;> with_reducible rfl)
            try simp only [Act.put, List.setIfInBounds_toArray, List.set_cons_zero, List.set_cons_succ]
            refine' Till.take 12 rfl (by kernel_rfl) (by kernel_rfl) (by kernel_rfl) (by kernel_rfl) (fun _ _ _ h => h) (Or.inl ⟨by rfl, ?_⟩) (by assumption) ?_
            rotate_left
            · (intro w hSw; (try dsimp only at hSw); go_simp <;> with_reducible rfl)
            try simp only [Act.put, List.setIfInBounds_toArray, List.set_cons_zero, List.set_cons_succ]
            refine' Till.take 13 rfl (by kernel_rfl) (by kernel_rfl) (by kernel_rfl) (by kernel_rfl) (fun _ _ _ h => h) (Or.inl ⟨by rfl, ?_⟩) (by assumption) ?_
            rotate_left
            · (intro w hSw; (try dsimp only at hSw); go_simp <;> with_reducible rfl)
            try simp only [Act.put, List.setIfInBounds_toArray, List.set_cons_zero, List.set_cons_succ]
            refine' Till.take 14 rfl (by kernel_rfl) (by kernel_rfl) (by kernel_rfl) (by kernel_rfl) (fun _ _ _ h => h) (Or.inl ⟨by rfl, ?_⟩) (by assumption) ?_
            rotate_left
            · (intro w hSw; (try dsimp only at hSw); go_simp <;> with_reducible rfl)
            try simp only [Act.put, List.setIfInBounds_toArray, List.set_cons_zero, List.set_cons_succ]
            refine' Till.take 15 rfl (by kernel_rfl) (by kernel_rfl) (by kernel_rfl) (by kernel_rfl) (fun _ _ _ h => h) (Or.inl ⟨by rfl, ?_⟩) (by assumption) ?_
            rotate_left
            · (intro w hSw; (try dsimp only at hSw); go_simp <;> with_reducible rfl)
            try simp only [Act.put, List.setIfInBounds_toArray, List.set_cons_zero, List.set_cons_succ]
            refine' Till.take 16 rfl (by kernel_rfl) (by kernel_rfl) (by kernel_rfl) (by kernel_rfl) (fun _ _ _ h => h) (Or.inl ⟨by rfl, ?_⟩) (by assumption) ?_
            rotate_left
            · (intro w hSw; (try dsimp only at hSw); go_simp <;> with_reducible rfl)
            try simp only [Act.put, List.setIfInBounds_toArray, List.set_cons_zero, List.set_cons_succ]
            refine' Till.take 17 rfl (by kernel_rfl) (by kernel_rfl) (by kernel_rfl) (by kernel_rfl) (fun _ _ _ h => h) (Or.inl ⟨by rfl, ?_⟩) (by assumption) ?_
            rotate_left
            · (intro w hSw; (try dsimp only at hSw); go_simp <;> with_reducible rfl)
            try simp only [Act.put, List.setIfInBounds_toArray, List.set_cons_zero, List.set_cons_succ]
            refine' Till.take 18 rfl (by kernel_rfl) (by kernel_rfl) (by kernel_rfl) (by kernel_rfl) (fun _ _ _ h => h) (Or.inl ⟨by rfl, ?_⟩) (by assumption) ?_
            rotate_left
            · (intro w hSw; (try dsimp only at hSw); go_simp <;> with_reducible rfl)
            try simp only [Act.put, List.setIfInBounds_toArray, List.set_cons_zero, List.set_cons_succ]
            refine' Till.take 19 rfl (by kernel_rfl) (by kernel_rfl) (by kernel_rfl) (by kernel_rfl) (fun _ _ _ h => h) (Or.inl ⟨by rfl, ?_⟩) (by assumption) ?_
            rotate_left
            · (intro w hSw; (try dsimp only at hSw); go_simp <;> with_reducible rfl)
            try simp only [Act.put, List.setIfInBounds_toArray, List.set_cons_zero, List.set_cons_succ]
            refine' Till.take 20 rfl (by kernel_rfl) (by kernel_rfl) (by kernel_rfl) (by kernel_rfl) (fun _ _ _ h => h) (Or.inl ⟨by rfl, ?_⟩) (by assumption) ?_
            rotate_left
            · (intro w hSw; (try dsimp only at hSw); go_simp <;> with_reducible rfl)
            try simp only [Act.put, List.setIfInBounds_toArray, List.set_cons_zero, List.set_cons_succ]
            refine Till.one 21 (by kernel_rfl) rfl (fun K hK => ?_)
            go_simp
            refine hK.out _ _ ?_ (fun hHeld => ?_)
            · exact hHeld
            clear hK K
            try simp only [Act.put, List.setIfInBounds_toArray, List.set_cons_zero, List.set_cons_succ]
            refine Till.one 22 (by kernel_rfl) rfl (fun K hK => ?_)
            have hbd : Below w5.heap.size w5 w5.drew := ⟨rfl, rfl, rfl, Nat.le_refl _, fun _ _ => rfl⟩
            refine step_append_bytes rfl (.tmp 83) (.tmp 104) 34 34 rfl Tryz.underlying34 (.slice a7 N7 c7) (.slice none (L5 + t - L5) (0 - L5)) (st.getD j1 []) (((st.getD (j1 + 1) []).drop L5).take t) r7 (by first | rfl | simp [Act.eval, Act.put]) (by first | rfl | (simp [Act.eval, Act.put]; done) | (simp [Act.eval, Act.put]; omega)) (HO5.out.later hbd) h256 ?hSrc (by rw [hkl, hL5]; omega) ?_
            case hSrc =>
              exact HB.out _ hbd
            intro v8 w8 r8 ho8 hg8 hr8
            have hv8 : ∃ a8 N8 c8, v8 = .slice a8 N8 c8 := ho8.bytes.elim fun a4 h => h.elim fun c4 h2 => ⟨a4, _, c4, h2.1⟩
            obtain ⟨a8, N8, c8, rfl⟩ := hv8
            have z50 := hg8.cell (a := ⟨wr.heap.size, 0, none⟩) y50 (by show some wr.heap.size ≠ r7; intro e; have := HR7.out _ e.symm; omega)
            have z6 := hg8.cell (a := ⟨gi, j1 + 1, none⟩) s6 (by show some gi ≠ r7; intro e; have := HR7.out _ e.symm; omega)
            have z5 := hg8.cell (a := ⟨gi, j1, none⟩) s5 (by show some gi ≠ r7; intro e; have := HR7.out _ e.symm; omega)
            have HO8 := Hid.mkR ho8
            have G8 : wr.grownBy w8 (some w.heap.size) := gk_trans (gk_later G5 hbd) hg8 (fun g e => .inr (by have := HR7.out g e; omega))
            have HQ8 : Hid (∀ g, r8 = some g → wr.heap.size ≤ g) := fun g e => hr8.elim (fun e2 => by have := HR7.out g (e2.symm.trans e); omega) (fun e2 => by rw [e2] at e; have e3 : w5.heap.size = g := Option.some.inj e; have := G5.size; omega)
            have hpk8 : PkAt w8 w.heap.size (.slice a n c) ps (nxt ps (nxt ps jj)) := hpk5.frame (fun y hy => hg8.block y (by have := G5.size; show y < w5.heap.size; omega) (fun e => by have := HR7.out _ e.symm; omega))
            refine hK.out _ _ ?_ (fun hHeld => ?_)
            · exact ⟨z50, z6, z5⟩
            clear hK K
            try simp only [Act.put, List.setIfInBounds_toArray, List.set_cons_zero, List.set_cons_succ]
            refine Till.last (by kernel_rfl) (by kernel_rfl) rfl (fun K hK => ?_)
            go_simp
            refine hK.out _ _ ?_
            clear hK K
            try simp only [Act.put, List.setIfInBounds_toArray, List.set_cons_zero, List.set_cons_succ]
            refine NoPanic.normal ?_
            clear hHeld z50 z6 z5 y50 s6 s5 ho8 hg8 hr8 HB hbd
            have HLL : Hid (lfR st gr (ps.drop jj) = (st.getD j1 [] ++ ((st.getD (j1 + 1) []).drop L5).take t, ps.drop (nxt ps (nxt ps jj)))) := HL2.out.trans (by rw [nxt_tail, nxt_tail])
            have d06 := ((HBW.out _ G8).cell (p := ⟨gl, j * 2, none⟩) (cell_lt HD0.out)).trans HD0.out
            obtain ⟨ts, ri, hoi, htl, hri, hpu⟩ := ImT.push (nm := x.1) HK.out.im (HK.out.im.grown G8 (Nat.le_refl _) (Nat.lt_succ_self _)) G8.size HO8.out HQ8.out (fun ts r blk hm => hm.frame G8 (fun g e => by cases e; exact Nat.lt_succ_self _)) (Nat.le_succ _)
            have htb : ts.length ≤ 2199023255000 := by rw [htl, crL2_len, List.length_take]; omega
            have HOI := Hid.mkR hoi
            have HPU := Hid.mkR hpu
            have HRI := Hid.mkR hri
            have HSS : Hid (crL2 k.ps (l.take (j + 1)) ps.tail = crL2 k.ps (l.take j) ps.tail ++ [(x.1, st.getD j1 [] ++ ((st.getD (j1 + 1) []).drop L5).take t)] ∧ ps.drop (nxt ps (nxt ps jj)) = stL k.ps (l.take (j + 1)) ps.tail) := ⟨by rw [HT1.out.1, HLL.out], by rw [HT1.out.2, HLL.out]⟩
            have HPK := Hid.mkR hpk8
            have hsz := G8.size
            clear hoi hpu hri htl HLL HT1 hpk8
            go_wp2_with (at_builtin; refine wpList_append_files _ rfl _ _ rfl _ _ ts [⟨str x.1, .slice a8 N8 c8⟩] ri rfl rfl ?hOwn ?hSrc ?hLen (.inr (Nat.succ_pos _)) ?_)
            case hOwn => exact HOI.out
            case hSrc => exact src_file w8 (str x.1) a8 N8 c8
            case hLen => first | (simp; omega) | omega
            intro v9 w9 g9 ho9 hg9 hr9
            have hv9 : ∃ a4 N4 c4, v9 = .slice a4 N4 c4 := ho9.shape.elim fun a4 h => h.elim fun c4 h2 => ⟨a4, _, c4, h2.1⟩
            obtain ⟨a9, N9, c9, rfl⟩ := hv9
            have hpk9 : PkAt w9 w.heap.size (.slice a n c) ps (nxt ps (nxt ps jj)) := HPK.out.frame (fun y hy => (hg9.block y (by first | omega | (simp; omega)) (fun e => by have := HRI.out _ e.symm; omega)).trans (((Below.refl _ w8).alloc (Nat.le_refl _) _).block y (by omega)))
            have HF : Hid (CrS w w.heap.size (.slice a n c) k.ps ps ps.tail (l.take (j + 1)) (.slice a9 N9 c9) w9) := ⟨by rw [HSS.out.1]; exact HPU.out _ _ _ ho9 hg9 (by simpa using hr9), _, hpk9, HSS.out.2⟩
            clear ho9 hg9 hr9 HOI HPU HSS HPK HRI hpk9 d06
            go_wp2
            go_roundw
            case rel => exact ⟨j + 1, by omega, by go_num, HF⟩
            case measure => simp [intOf]; omega
          · injection q2 with q2 q5 q6
            subst q2 q6
            by_cases hc6 : L5 < c6
            · skip
              have hc7 : ¬ c6 = L5 := by omega
              have hi1 : (L5 : Int) ≤ (L5 : Int) + (t : Int) := by omega
              have hi2 : (L5 : Int) + (t : Int) ≤ (c6 : Int) := by omega
              have HB := Hid.mkR (HPT.out (.slice (some ⟨g6, L5, none⟩) (L5 + t - L5) (c6 - L5)) (own_part HST.out (by omega) (L5 + t - L5) (by omega)))
              go_wp2_with fail
              refine wp_region_noPanic ?_
              refine Till.start 23 (S := fun u => u.cell? ⟨wr.heap.size, 0, none⟩ = some (.slice (some ⟨gi, 0, none⟩) M cS) ∧ u.cell? ⟨gi, j1 + 1, none⟩ = some (.slice (some ⟨g6, 0, none⟩) (L5 + zn) c6) ∧ u.cell? ⟨gi, j1, none⟩ = some (.slice a5 L5 c5)) (by kernel_rfl) ⟨y50, s6, s5⟩ (fun hHeld => ?_)
              refine' Till.take 0 rfl (by kernel_rfl) (by kernel_rfl) (by kernel_rfl) (by kernel_rfl) (fun _ _ _ h => h) (Or.inl ⟨by rfl, ?_⟩) (by assumption) ?_
              rotate_left
              · (intro w hSw; (try dsimp only at hSw); go_simp <;> with_reducible rfl)
              try simp only [Act.put, List.setIfInBounds_toArray, List.set_cons_zero, List.set_cons_succ]
              refine' Till.take 1 rfl (by kernel_rfl) (by kernel_rfl) (by kernel_rfl) (by kernel_rfl) (fun _ _ _ h => h) (Or.inl ⟨by rfl, ?_⟩) (by assumption) ?_
              rotate_left
              · (intro w hSw; (try dsimp only at hSw); go_simp <;> with_reducible rfl)
              try simp only [Act.put, List.setIfInBounds_toArray, List.set_cons_zero, List.set_cons_succ]
              refine' Till.take 2 rfl (by kernel_rfl) (by kernel_rfl) (by kernel_rfl) (by kernel_rfl) (fun _ _ _ h => h) (Or.inl ⟨by rfl, ?_⟩) (by assumption) ?_
              rotate_left
              · (intro w hSw; (try dsimp only at hSw); go_simp <;> with_reducible rfl)
              try simp only [Act.put, List.setIfInBounds_toArray, List.set_cons_zero, List.set_cons_succ]
              refine' Till.take 3 rfl (by kernel_rfl) (by kernel_rfl) (by kernel_rfl) (by kernel_rfl) (fun _ _ _ h => h) (Or.inl ⟨by rfl, ?_⟩) (by assumption) ?_
              rotate_left
              · (intro w hSw; (try dsimp only at hSw); go_simp <;> with_reducible rfl)
              try simp only [Act.put, List.setIfInBounds_toArray, List.set_cons_zero, List.set_cons_succ]
              refine' Till.take 4 rfl (by kernel_rfl) (by kernel_rfl) (by kernel_rfl) (by kernel_rfl) (fun _ _ _ h => h) (Or.inl ⟨by rfl, ?_⟩) (by assumption) ?_
              rotate_left
              · (intro w hSw; (try dsimp only at hSw); go_simp <;> with_reducible rfl)
              try simp only [Act.put, List.setIfInBounds_toArray, List.set_cons_zero, List.set_cons_succ]
              refine' Till.take 5 rfl (by kernel_rfl) (by kernel_rfl) (by kernel_rfl) (by kernel_rfl) (fun _ _ _ h => h) (Or.inl ⟨by rfl, ?_⟩) (by assumption) ?_
              rotate_left
              · (intro w hSw; (try dsimp only at hSw); go_simp <;> with_reducible rfl)
              try simp only [Act.put, List.setIfInBounds_toArray, List.set_cons_zero, List.set_cons_succ]
              refine' Till.take 6 rfl (by kernel_rfl) (by kernel_rfl) (by kernel_rfl) (by kernel_rfl) (fun _ _ _ h => h) (Or.inl ⟨by rfl, ?_⟩) (by assumption) ?_
              rotate_left
              · (intro w hSw; (try dsimp only at hSw); go_simp <;> with_reducible rfl)
              try simp only [Act.put, List.setIfInBounds_toArray, List.set_cons_zero, List.set_cons_succ]
              refine' Till.take 7 rfl (by kernel_rfl) (by kernel_rfl) (by kernel_rfl) (by kernel_rfl) (fun _ _ _ h => h) (Or.inl ⟨by rfl, ?_⟩) (by assumption) ?_
              rotate_left
              · (intro w hSw; (try dsimp only at hSw); go_simp <;> with_reducible rfl)
              try simp only [Act.put, List.setIfInBounds_toArray, List.set_cons_zero, List.set_cons_succ]
              refine' Till.take 8 rfl (by kernel_rfl) (by kernel_rfl) (by kernel_rfl) (by kernel_rfl) (fun _ _ _ h => h) (Or.inl ⟨by rfl, ?_⟩) (by assumption) ?_
              rotate_left
              · (intro w hSw; (try dsimp only at hSw); go_simp <;> with_reducible rfl)
              try simp only [Act.put, List.setIfInBounds_toArray, List.set_cons_zero, List.set_cons_succ]
              refine' Till.take 9 rfl (by kernel_rfl) (by kernel_rfl) (by kernel_rfl) (by kernel_rfl) (fun _ _ _ h => h) (Or.inl ⟨by rfl, ?_⟩) (by assumption) ?_
              rotate_left
              · (intro w hSw; (try dsimp only at hSw); go_simp <;> with_reducible rfl)
              try simp only [Act.put, List.setIfInBounds_toArray, List.set_cons_zero, List.set_cons_succ]
              refine' Till.take 10 rfl (by kernel_rfl) (by kernel_rfl) (by kernel_rfl) (by kernel_rfl) (fun _ _ _ h => h) (Or.inl ⟨by rfl, ?_⟩) (by assumption) ?_
              rotate_left
              · (intro w hSw; (try dsimp only at hSw); go_simp <;> with_reducible rfl)
              try simp only [Act.put, List.setIfInBounds_toArray, List.set_cons_zero, List.set_cons_succ]
              refine' Till.take 11 rfl (by kernel_rfl) (by kernel_rfl) (by kernel_rfl) (by kernel_rfl) (fun _ _ _ h => h) (Or.inl ⟨by rfl, ?_⟩) (by assumption) ?_
              rotate_left
              · (intro w hSw; (try dsimp only at hSw); go_simp <;> with_reducible rfl)
              try simp only [Act.put, List.setIfInBounds_toArray, List.set_cons_zero, List.set_cons_succ]
              refine' Till.take 12 rfl (by kernel_rfl) (by kernel_rfl) (by kernel_rfl) (by kernel_rfl) (fun _ _ _ h => h) (Or.inl ⟨by rfl, ?_⟩) (by assumption) ?_
              rotate_left
              · (intro w hSw; (try dsimp only at hSw); go_simp <;> with_reducible rfl)
              try simp only [Act.put, List.setIfInBounds_toArray, List.set_cons_zero, List.set_cons_succ]
              refine' Till.take 13 rfl (by kernel_rfl) (by kernel_rfl) (by kernel_rfl) (by kernel_rfl) (fun _ _ _ h => h) (Or.inl ⟨by rfl, ?_⟩) (by assumption) ?_
              rotate_left
              · (intro w hSw; (try dsimp only at hSw); go_simp <;> with_reducible rfl)
              try simp only [Act.put, List.setIfInBounds_toArray, List.set_cons_zero, List.set_cons_succ]
              refine' Till.take 14 rfl (by kernel_rfl) (by kernel_rfl) (by kernel_rfl) (by kernel_rfl) (fun _ _ _ h => h) (Or.inl ⟨by rfl, ?_⟩) (by assumption) ?_
              rotate_left
              · (intro w hSw; (try dsimp only at hSw); go_simp <;> with_reducible rfl)
              try simp only [Act.put, List.setIfInBounds_toArray, List.set_cons_zero, List.set_cons_succ]
              refine' Till.take 15 rfl (by kernel_rfl) (by kernel_rfl) (by kernel_rfl) (by kernel_rfl) (fun _ _ _ h => h) (Or.inl ⟨by rfl, ?_⟩) (by assumption) ?_
              rotate_left
              · (intro w hSw; (try dsimp only at hSw); go_simp <;> with_reducible rfl)
              try simp only [Act.put, List.setIfInBounds_toArray, List.set_cons_zero, List.set_cons_succ]
              refine' Till.take 16 rfl (by kernel_rfl) (by kernel_rfl) (by kernel_rfl) (by kernel_rfl) (fun _ _ _ h => h) (Or.inl ⟨by rfl, ?_⟩) (by assumption) ?_
              rotate_left
              · (intro w hSw; (try dsimp only at hSw); go_simp <;> with_reducible rfl)
              try simp only [Act.put, List.setIfInBounds_toArray, List.set_cons_zero, List.set_cons_succ]
              refine' Till.take 17 rfl (by kernel_rfl) (by kernel_rfl) (by kernel_rfl) (by kernel_rfl) (fun _ _ _ h => h) (Or.inl ⟨by rfl, ?_⟩) (by assumption) ?_
              rotate_left
              · (intro w hSw; (try dsimp only at hSw); go_simp <;> with_reducible rfl)
              try simp only [Act.put, List.setIfInBounds_toArray, List.set_cons_zero, List.set_cons_succ]
              refine' Till.take 18 rfl (by kernel_rfl) (by kernel_rfl) (by kernel_rfl) (by kernel_rfl) (fun _ _ _ h => h) (Or.inl ⟨by rfl, ?_⟩) (by assumption) ?_
              rotate_left
              · (intro w hSw; (try dsimp only at hSw); go_simp <;> with_reducible rfl)
              try simp only [Act.put, List.setIfInBounds_toArray, List.set_cons_zero, List.set_cons_succ]
              refine' Till.take 19 rfl (by kernel_rfl) (by kernel_rfl) (by kernel_rfl) (by kernel_rfl) (fun _ _ _ h => h) (Or.inl ⟨by rfl, ?_⟩) (by assumption) ?_
              rotate_left
              · (intro w hSw; (try dsimp only at hSw); go_simp <;> with_reducible rfl)
              try simp only [Act.put, List.setIfInBounds_toArray, List.set_cons_zero, List.set_cons_succ]
              refine' Till.take 20 rfl (by kernel_rfl) (by kernel_rfl) (by kernel_rfl) (by kernel_rfl) (fun _ _ _ h => h) (Or.inl ⟨by rfl, ?_⟩) (by assumption) ?_
              rotate_left
              · (intro w hSw; (try dsimp only at hSw); go_simp <;> with_reducible rfl)
              try simp only [Act.put, List.setIfInBounds_toArray, List.set_cons_zero, List.set_cons_succ]
              refine Till.one 21 (by kernel_rfl) rfl (fun K hK => ?_)
              go_simp
              refine hK.out _ _ ?_ (fun hHeld => ?_)
              · exact hHeld
              clear hK K
              try simp only [Act.put, List.setIfInBounds_toArray, List.set_cons_zero, List.set_cons_succ]
              refine Till.one 22 (by kernel_rfl) rfl (fun K hK => ?_)
              have hbd : Below w5.heap.size w5 w5.drew := ⟨rfl, rfl, rfl, Nat.le_refl _, fun _ _ => rfl⟩
              refine step_append_bytes rfl (.tmp 83) (.tmp 104) 34 34 rfl Tryz.underlying34 (.slice a7 N7 c7) (.slice (some ⟨g6, L5, none⟩) (L5 + t - L5) (c6 - L5)) (st.getD j1 []) (((st.getD (j1 + 1) []).drop L5).take t) r7 (by first | rfl | simp [Act.eval, Act.put]) (by first | rfl | (simp [Act.eval, Act.put]; done) | (simp [Act.eval, Act.put]; omega)) (HO5.out.later hbd) h256 ?hSrc (by rw [hkl, hL5]; omega) ?_
              case hSrc =>
                exact HB.out _ hbd
              intro v8 w8 r8 ho8 hg8 hr8
              have hv8 : ∃ a8 N8 c8, v8 = .slice a8 N8 c8 := ho8.bytes.elim fun a4 h => h.elim fun c4 h2 => ⟨a4, _, c4, h2.1⟩
              obtain ⟨a8, N8, c8, rfl⟩ := hv8
              have z50 := hg8.cell (a := ⟨wr.heap.size, 0, none⟩) y50 (by show some wr.heap.size ≠ r7; intro e; have := HR7.out _ e.symm; omega)
              have z6 := hg8.cell (a := ⟨gi, j1 + 1, none⟩) s6 (by show some gi ≠ r7; intro e; have := HR7.out _ e.symm; omega)
              have z5 := hg8.cell (a := ⟨gi, j1, none⟩) s5 (by show some gi ≠ r7; intro e; have := HR7.out _ e.symm; omega)
              have HO8 := Hid.mkR ho8
              have G8 : wr.grownBy w8 (some w.heap.size) := gk_trans (gk_later G5 hbd) hg8 (fun g e => .inr (by have := HR7.out g e; omega))
              have HQ8 : Hid (∀ g, r8 = some g → wr.heap.size ≤ g) := fun g e => hr8.elim (fun e2 => by have := HR7.out g (e2.symm.trans e); omega) (fun e2 => by rw [e2] at e; have e3 : w5.heap.size = g := Option.some.inj e; have := G5.size; omega)
              have hpk8 : PkAt w8 w.heap.size (.slice a n c) ps (nxt ps (nxt ps jj)) := hpk5.frame (fun y hy => hg8.block y (by have := G5.size; show y < w5.heap.size; omega) (fun e => by have := HR7.out _ e.symm; omega))
              refine hK.out _ _ ?_ (fun hHeld => ?_)
              · exact ⟨z50, z6, z5⟩
              clear hK K
              try simp only [Act.put, List.setIfInBounds_toArray, List.set_cons_zero, List.set_cons_succ]
              refine Till.last (by kernel_rfl) (by kernel_rfl) rfl (fun K hK => ?_)
              go_simp
              refine hK.out _ _ ?_
              clear hK K
              try simp only [Act.put, List.setIfInBounds_toArray, List.set_cons_zero, List.set_cons_succ]
              refine NoPanic.normal ?_
              clear hHeld z50 z6 z5 y50 s6 s5 ho8 hg8 hr8 HB hbd
              have HLL : Hid (lfR st gr (ps.drop jj) = (st.getD j1 [] ++ ((st.getD (j1 + 1) []).drop L5).take t, ps.drop (nxt ps (nxt ps jj)))) := HL2.out.trans (by rw [nxt_tail, nxt_tail])
              have d06 := ((HBW.out _ G8).cell (p := ⟨gl, j * 2, none⟩) (cell_lt HD0.out)).trans HD0.out
              obtain ⟨ts, ri, hoi, htl, hri, hpu⟩ := ImT.push (nm := x.1) HK.out.im (HK.out.im.grown G8 (Nat.le_refl _) (Nat.lt_succ_self _)) G8.size HO8.out HQ8.out (fun ts r blk hm => hm.frame G8 (fun g e => by cases e; exact Nat.lt_succ_self _)) (Nat.le_succ _)
              have htb : ts.length ≤ 2199023255000 := by rw [htl, crL2_len, List.length_take]; omega
              have HOI := Hid.mkR hoi
              have HPU := Hid.mkR hpu
              have HRI := Hid.mkR hri
              have HSS : Hid (crL2 k.ps (l.take (j + 1)) ps.tail = crL2 k.ps (l.take j) ps.tail ++ [(x.1, st.getD j1 [] ++ ((st.getD (j1 + 1) []).drop L5).take t)] ∧ ps.drop (nxt ps (nxt ps jj)) = stL k.ps (l.take (j + 1)) ps.tail) := ⟨by rw [HT1.out.1, HLL.out], by rw [HT1.out.2, HLL.out]⟩
              have HPK := Hid.mkR hpk8
              have hsz := G8.size
              clear hoi hpu hri htl HLL HT1 hpk8
              go_wp2_with (at_builtin; refine wpList_append_files _ rfl _ _ rfl _ _ ts [⟨str x.1, .slice a8 N8 c8⟩] ri rfl rfl ?hOwn ?hSrc ?hLen (.inr (Nat.succ_pos _)) ?_)
              case hOwn => exact HOI.out
              case hSrc => exact src_file w8 (str x.1) a8 N8 c8
              case hLen => first | (simp; omega) | omega
              intro v9 w9 g9 ho9 hg9 hr9
              have hv9 : ∃ a4 N4 c4, v9 = .slice a4 N4 c4 := ho9.shape.elim fun a4 h => h.elim fun c4 h2 => ⟨a4, _, c4, h2.1⟩
              obtain ⟨a9, N9, c9, rfl⟩ := hv9
              have hpk9 : PkAt w9 w.heap.size (.slice a n c) ps (nxt ps (nxt ps jj)) := HPK.out.frame (fun y hy => (hg9.block y (by first | omega | (simp; omega)) (fun e => by have := HRI.out _ e.symm; omega)).trans (((Below.refl _ w8).alloc (Nat.le_refl _) _).block y (by omega)))
              have HF : Hid (CrS w w.heap.size (.slice a n c) k.ps ps ps.tail (l.take (j + 1)) (.slice a9 N9 c9) w9) := ⟨by rw [HSS.out.1]; exact HPU.out _ _ _ ho9 hg9 (by simpa using hr9), _, hpk9, HSS.out.2⟩
              clear ho9 hg9 hr9 HOI HPU HSS HPK HRI hpk9 d06
              go_wp2
              go_roundw
              case rel => exact ⟨j + 1, by omega, by go_num, HF⟩
              case measure => simp [intOf]; omega
            · skip
              have hc7 : L5 = c6 := by omega
              have hi1 : (L5 : Int) ≤ (L5 : Int) + (t : Int) := by omega
              have hi2 : (L5 : Int) + (t : Int) ≤ (L5 : Int) := by omega
              subst hc7
              have HB := Hid.mkR (HPT.out (.slice (some ⟨g6, 0, none⟩) (L5 + t - L5) 0) (by rw [show L5 + t - L5 = 0 by omega]; exact own_end HST.out (Nat.le_refl _)))
              go_wp2_with fail
              refine wp_region_noPanic ?_
              refine Till.start 23 (S := fun u => u.cell? ⟨wr.heap.size, 0, none⟩ = some (.slice (some ⟨gi, 0, none⟩) M cS) ∧ u.cell? ⟨gi, j1 + 1, none⟩ = some (.slice (some ⟨g6, 0, none⟩) (L5 + zn) L5) ∧ u.cell? ⟨gi, j1, none⟩ = some (.slice a5 L5 c5)) (by kernel_rfl) ⟨y50, s6, s5⟩ (fun hHeld => ?_)
              refine' Till.take 0 rfl (by kernel_rfl) (by kernel_rfl) (by kernel_rfl) (by kernel_rfl) (fun _ _ _ h => h) (Or.inl ⟨by rfl, ?_⟩) (by assumption) ?_
              rotate_left
              · (intro w hSw; (try dsimp only at hSw); go_simp <;> with_reducible rfl)
              try simp only [Act.put, List.setIfInBounds_toArray, List.set_cons_zero, List.set_cons_succ]
              refine' Till.take 1 rfl (by kernel_rfl) (by kernel_rfl) (by kernel_rfl) (by kernel_rfl) (fun _ _ _ h => h) (Or.inl ⟨by rfl, ?_⟩) (by assumption) ?_
              rotate_left
              · (intro w hSw; (try dsimp only at hSw); go_simp <;> with_reducible rfl)
              try simp only [Act.put, List.setIfInBounds_toArray, List.set_cons_zero, List.set_cons_succ]
              refine' Till.take 2 rfl (by kernel_rfl) (by kernel_rfl) (by kernel_rfl) (by kernel_rfl) (fun _ _ _ h => h) (Or.inl ⟨by rfl, ?_⟩) (by assumption) ?_
              rotate_left
              · (intro w hSw; (try dsimp only at hSw); go_simp <;> with_reducible rfl)
              try simp only [Act.put, List.setIfInBounds_toArray, List.set_cons_zero, List.set_cons_succ]
              refine' Till.take 3 rfl (by kernel_rfl) (by kernel_rfl) (by kernel_rfl) (by kernel_rfl) (fun _ _ _ h => h) (Or.inl ⟨by rfl, ?_⟩) (by assumption) ?_
              rotate_left
              · (intro w hSw; (try dsimp only at hSw); go_simp <;> with_reducible rfl)
              try simp only [Act.put, List.setIfInBounds_toArray, List.set_cons_zero, List.set_cons_succ]
              refine' Till.take 4 rfl (by kernel_rfl) (by kernel_rfl) (by kernel_rfl) (by kernel_rfl) (fun _ _ _ h => h) (Or.inl ⟨by rfl, ?_⟩) (by assumption) ?_
              rotate_left
              · (intro w hSw; (try dsimp only at hSw); go_simp <;> with_reducible rfl)
              try simp only [Act.put, List.setIfInBounds_toArray, List.set_cons_zero, List.set_cons_succ]
              refine' Till.take 5 rfl (by kernel_rfl) (by kernel_rfl) (by kernel_rfl) (by kernel_rfl) (fun _ _ _ h => h) (Or.inl ⟨by rfl, ?_⟩) (by assumption) ?_
              rotate_left
              · (intro w hSw; (try dsimp only at hSw); go_simp <;> with_reducible rfl)
              try simp only [Act.put, List.setIfInBounds_toArray, List.set_cons_zero, List.set_cons_succ]
              refine' Till.take 6 rfl (by kernel_rfl) (by kernel_rfl) (by kernel_rfl) (by kernel_rfl) (fun _ _ _ h => h) (Or.inl ⟨by rfl, ?_⟩) (by assumption) ?_
              rotate_left
              · (intro w hSw; (try dsimp only at hSw); go_simp <;> with_reducible rfl)
              try simp only [Act.put, List.setIfInBounds_toArray, List.set_cons_zero, List.set_cons_succ]
              refine' Till.take 7 rfl (by kernel_rfl) (by kernel_rfl) (by kernel_rfl) (by kernel_rfl) (fun _ _ _ h => h) (Or.inl ⟨by rfl, ?_⟩) (by assumption) ?_
              rotate_left
              · (intro w hSw; (try dsimp only at hSw); go_simp <;> with_reducible rfl)
              try simp only [Act.put, List.setIfInBounds_toArray, List.set_cons_zero, List.set_cons_succ]
              refine' Till.take 8 rfl (by kernel_rfl) (by kernel_rfl) (by kernel_rfl) (by kernel_rfl) (fun _ _ _ h => h) (Or.inl ⟨by rfl, ?_⟩) (by assumption) ?_
              rotate_left
              · (intro w hSw; (try dsimp only at hSw); go_simp <;> with_reducible rfl)
              try simp only [Act.put, List.setIfInBounds_toArray, List.set_cons_zero, List.set_cons_succ]
              refine' Till.take 9 rfl (by kernel_rfl) (by kernel_rfl) (by kernel_rfl) (by kernel_rfl) (fun _ _ _ h => h) (Or.inl ⟨by rfl, ?_⟩) (by assumption) ?_
              rotate_left
              · (intro w hSw; (try dsimp only at hSw); go_simp <;> with_reducible rfl)
              try simp only [Act.put, List.setIfInBounds_toArray, List.set_cons_zero, List.set_cons_succ]
              refine' Till.take 10 rfl (by kernel_rfl) (by kernel_rfl) (by kernel_rfl) (by kernel_rfl) (fun _ _ _ h => h) (Or.inl ⟨by rfl, ?_⟩) (by assumption) ?_
              rotate_left
              · (intro w hSw; (try dsimp only at hSw); go_simp <;> with_reducible rfl)
              try simp only [Act.put, List.setIfInBounds_toArray, List.set_cons_zero, List.set_cons_succ]
              refine' Till.take 11 rfl (by kernel_rfl) (by kernel_rfl) (by kernel_rfl) (by kernel_rfl) (fun _ _ _ h => h) (Or.inl ⟨by rfl, ?_⟩) (by assumption) ?_
              rotate_left
              · (intro w hSw; (try dsimp only at hSw); go_simp <;> with_reducible rfl)
              try simp only [Act.put, List.setIfInBounds_toArray, List.set_cons_zero, List.set_cons_succ]
              refine' Till.take 12 rfl (by kernel_rfl) (by kernel_rfl) (by kernel_rfl) (by kernel_rfl) (fun _ _ _ h => h) (Or.inl ⟨by rfl, ?_⟩) (by assumption) ?_
              rotate_left
              · (intro w hSw; (try dsimp only at hSw); go_simp <;> with_reducible rfl)
              try simp only [Act.put, List.setIfInBounds_toArray, List.set_cons_zero, List.set_cons_succ]
              refine' Till.take 13 rfl (by kernel_rfl) (by kernel_rfl) (by kernel_rfl) (by kernel_rfl) (fun _ _ _ h => h) (Or.inl ⟨by rfl, ?_⟩) (by assumption) ?_
              rotate_left
              · (intro w hSw; (try dsimp only at hSw); go_simp <;> with_reducible rfl)
              try simp only [Act.put, List.setIfInBounds_toArray, List.set_cons_zero, List.set_cons_succ]
              refine' Till.take 14 rfl (by kernel_rfl) (by kernel_rfl) (by kernel_rfl) (by kernel_rfl) (fun _ _ _ h => h) (Or.inl ⟨by rfl, ?_⟩) (by assumption) ?_
              rotate_left
              · (intro w hSw; (try dsimp only at hSw); go_simp <;> with_reducible rfl)
              try simp only [Act.put, List.setIfInBounds_toArray, List.set_cons_zero, List.set_cons_succ]
              refine' Till.take 15 rfl (by kernel_rfl) (by kernel_rfl) (by kernel_rfl) (by kernel_rfl) (fun _ _ _ h => h) (Or.inl ⟨by rfl, ?_⟩) (by assumption) ?_
              rotate_left
              · (intro w hSw; (try dsimp only at hSw); go_simp <;> with_reducible rfl)
              try simp only [Act.put, List.setIfInBounds_toArray, List.set_cons_zero, List.set_cons_succ]
              refine' Till.take 16 rfl (by kernel_rfl) (by kernel_rfl) (by kernel_rfl) (by kernel_rfl) (fun _ _ _ h => h) (Or.inl ⟨by rfl, ?_⟩) (by assumption) ?_
              rotate_left
              · (intro w hSw; (try dsimp only at hSw); go_simp <;> with_reducible rfl)
              try simp only [Act.put, List.setIfInBounds_toArray, List.set_cons_zero, List.set_cons_succ]
              refine' Till.take 17 rfl (by kernel_rfl) (by kernel_rfl) (by kernel_rfl) (by kernel_rfl) (fun _ _ _ h => h) (Or.inl ⟨by rfl, ?_⟩) (by assumption) ?_
              rotate_left
              · (intro w hSw; (try dsimp only at hSw); go_simp <;> with_reducible rfl)
              try simp only [Act.put, List.setIfInBounds_toArray, List.set_cons_zero, List.set_cons_succ]
              refine' Till.take 18 rfl (by kernel_rfl) (by kernel_rfl) (by kernel_rfl) (by kernel_rfl) (fun _ _ _ h => h) (Or.inl ⟨by rfl, ?_⟩) (by assumption) ?_
              rotate_left
              · (intro w hSw; (try dsimp only at hSw); go_simp <;> with_reducible rfl)
              try simp only [Act.put, List.setIfInBounds_toArray, List.set_cons_zero, List.set_cons_succ]
              refine' Till.take 19 rfl (by kernel_rfl) (by kernel_rfl) (by kernel_rfl) (by kernel_rfl) (fun _ _ _ h => h) (Or.inl ⟨by rfl, ?_⟩) (by assumption) ?_
              rotate_left
              · (intro w hSw; (try dsimp only at hSw); go_simp <;> with_reducible rfl)
              try simp only [Act.put, List.setIfInBounds_toArray, List.set_cons_zero, List.set_cons_succ]
              refine' Till.take 20 rfl (by kernel_rfl) (by kernel_rfl) (by kernel_rfl) (by kernel_rfl) (fun _ _ _ h => h) (Or.inl ⟨by rfl, ?_⟩) (by assumption) ?_
              rotate_left
              · (intro w hSw; (try dsimp only at hSw); go_simp <;> with_reducible rfl)
              try simp only [Act.put, List.setIfInBounds_toArray, List.set_cons_zero, List.set_cons_succ]
              refine Till.one 21 (by kernel_rfl) rfl (fun K hK => ?_)
              go_simp
              refine hK.out _ _ ?_ (fun hHeld => ?_)
              · exact hHeld
              clear hK K
              try simp only [Act.put, List.setIfInBounds_toArray, List.set_cons_zero, List.set_cons_succ]
              refine Till.one 22 (by kernel_rfl) rfl (fun K hK => ?_)
              have hbd : Below w5.heap.size w5 w5.drew := ⟨rfl, rfl, rfl, Nat.le_refl _, fun _ _ => rfl⟩
              refine step_append_bytes rfl (.tmp 83) (.tmp 104) 34 34 rfl Tryz.underlying34 (.slice a7 N7 c7) (.slice (some ⟨g6, 0, none⟩) (L5 + t - L5) 0) (st.getD j1 []) (((st.getD (j1 + 1) []).drop L5).take t) r7 (by first | rfl | simp [Act.eval, Act.put]) (by first | rfl | (simp [Act.eval, Act.put]; done) | (simp [Act.eval, Act.put]; omega)) (HO5.out.later hbd) h256 ?hSrc (by rw [hkl, hL5]; omega) ?_
              case hSrc =>
                exact HB.out _ hbd
              intro v8 w8 r8 ho8 hg8 hr8
              have hv8 : ∃ a8 N8 c8, v8 = .slice a8 N8 c8 := ho8.bytes.elim fun a4 h => h.elim fun c4 h2 => ⟨a4, _, c4, h2.1⟩
              obtain ⟨a8, N8, c8, rfl⟩ := hv8
              have z50 := hg8.cell (a := ⟨wr.heap.size, 0, none⟩) y50 (by show some wr.heap.size ≠ r7; intro e; have := HR7.out _ e.symm; omega)
              have z6 := hg8.cell (a := ⟨gi, j1 + 1, none⟩) s6 (by show some gi ≠ r7; intro e; have := HR7.out _ e.symm; omega)
              have z5 := hg8.cell (a := ⟨gi, j1, none⟩) s5 (by show some gi ≠ r7; intro e; have := HR7.out _ e.symm; omega)
              have HO8 := Hid.mkR ho8
              have G8 : wr.grownBy w8 (some w.heap.size) := gk_trans (gk_later G5 hbd) hg8 (fun g e => .inr (by have := HR7.out g e; omega))
              have HQ8 : Hid (∀ g, r8 = some g → wr.heap.size ≤ g) := fun g e => hr8.elim (fun e2 => by have := HR7.out g (e2.symm.trans e); omega) (fun e2 => by rw [e2] at e; have e3 : w5.heap.size = g := Option.some.inj e; have := G5.size; omega)
              have hpk8 : PkAt w8 w.heap.size (.slice a n c) ps (nxt ps (nxt ps jj)) := hpk5.frame (fun y hy => hg8.block y (by have := G5.size; show y < w5.heap.size; omega) (fun e => by have := HR7.out _ e.symm; omega))
              refine hK.out _ _ ?_ (fun hHeld => ?_)
              · exact ⟨z50, z6, z5⟩
              clear hK K
              try simp only [Act.put, List.setIfInBounds_toArray, List.set_cons_zero, List.set_cons_succ]
              refine Till.last (by kernel_rfl) (by kernel_rfl) rfl (fun K hK => ?_)
              go_simp
              refine hK.out _ _ ?_
              clear hK K
              try simp only [Act.put, List.setIfInBounds_toArray, List.set_cons_zero, List.set_cons_succ]
              refine NoPanic.normal ?_
              clear hHeld z50 z6 z5 y50 s6 s5 ho8 hg8 hr8 HB hbd
              have HLL : Hid (lfR st gr (ps.drop jj) = (st.getD j1 [] ++ ((st.getD (j1 + 1) []).drop L5).take t, ps.drop (nxt ps (nxt ps jj)))) := HL2.out.trans (by rw [nxt_tail, nxt_tail])
              have d06 := ((HBW.out _ G8).cell (p := ⟨gl, j * 2, none⟩) (cell_lt HD0.out)).trans HD0.out
              obtain ⟨ts, ri, hoi, htl, hri, hpu⟩ := ImT.push (nm := x.1) HK.out.im (HK.out.im.grown G8 (Nat.le_refl _) (Nat.lt_succ_self _)) G8.size HO8.out HQ8.out (fun ts r blk hm => hm.frame G8 (fun g e => by cases e; exact Nat.lt_succ_self _)) (Nat.le_succ _)
              have htb : ts.length ≤ 2199023255000 := by rw [htl, crL2_len, List.length_take]; omega
              have HOI := Hid.mkR hoi
              have HPU := Hid.mkR hpu
              have HRI := Hid.mkR hri
              have HSS : Hid (crL2 k.ps (l.take (j + 1)) ps.tail = crL2 k.ps (l.take j) ps.tail ++ [(x.1, st.getD j1 [] ++ ((st.getD (j1 + 1) []).drop L5).take t)] ∧ ps.drop (nxt ps (nxt ps jj)) = stL k.ps (l.take (j + 1)) ps.tail) := ⟨by rw [HT1.out.1, HLL.out], by rw [HT1.out.2, HLL.out]⟩
              have HPK := Hid.mkR hpk8
              have hsz := G8.size
              clear hoi hpu hri htl HLL HT1 hpk8
              go_wp2_with (at_builtin; refine wpList_append_files _ rfl _ _ rfl _ _ ts [⟨str x.1, .slice a8 N8 c8⟩] ri rfl rfl ?hOwn ?hSrc ?hLen (.inr (Nat.succ_pos _)) ?_)
              case hOwn => exact HOI.out
              case hSrc => exact src_file w8 (str x.1) a8 N8 c8
              case hLen => first | (simp; omega) | omega
              intro v9 w9 g9 ho9 hg9 hr9
              have hv9 : ∃ a4 N4 c4, v9 = .slice a4 N4 c4 := ho9.shape.elim fun a4 h => h.elim fun c4 h2 => ⟨a4, _, c4, h2.1⟩
              obtain ⟨a9, N9, c9, rfl⟩ := hv9
              have hpk9 : PkAt w9 w.heap.size (.slice a n c) ps (nxt ps (nxt ps jj)) := HPK.out.frame (fun y hy => (hg9.block y (by first | omega | (simp; omega)) (fun e => by have := HRI.out _ e.symm; omega)).trans (((Below.refl _ w8).alloc (Nat.le_refl _) _).block y (by omega)))
              have HF : Hid (CrS w w.heap.size (.slice a n c) k.ps ps ps.tail (l.take (j + 1)) (.slice a9 N9 c9) w9) := ⟨by rw [HSS.out.1]; exact HPU.out _ _ _ ho9 hg9 (by simpa using hr9), _, hpk9, HSS.out.2⟩
              clear ho9 hg9 hr9 HOI HPU HSS HPK HRI hpk9 d06
              go_wp2
              go_roundw
              case rel => exact ⟨j + 1, by omega, by go_num, HF⟩
              case measure => simp [intOf]; omega
        · have HL2 : Hid (lfR st gr (ps.drop jj) = (st.getD j1 [], (ps.drop jj).tail)) := by unfold Hid; rw [HL.out, if_neg (fun e => hp e.2)]
          clear HL
          generalize gr.getD (j1 + 1) 0 = z at *
          have HLL : Hid (lfR st gr (ps.drop jj) = (st.getD j1 [], ps.drop (nxt ps jj))) := HL2.out.trans (by rw [nxt_tail])
          have d06 := ((HBW.out _ G4).cell (p := ⟨gl, j * 2, none⟩) (cell_lt HD0.out)).trans HD0.out
          obtain ⟨ts, ri, hoi, htl, hri, hpu⟩ := ImT.push (nm := x.1) HK.out.im (HK.out.im.grown G4 (Nat.le_refl _) (Nat.lt_succ_self _)) G4.size HO7.out (fun g e => Nat.le_of_lt (HR7.out g e)) (fun ts r blk hm => hm.frame G4 (fun g e => by cases e; exact Nat.lt_succ_self _)) (Nat.le_succ _)
          have htb : ts.length ≤ 2199023255000 := by rw [htl, crL2_len, List.length_take]; omega
          have HOI := Hid.mkR hoi
          have HPU := Hid.mkR hpu
          have HRI := Hid.mkR hri
          have HSS : Hid (crL2 k.ps (l.take (j + 1)) ps.tail = crL2 k.ps (l.take j) ps.tail ++ [(x.1, st.getD j1 [])] ∧ ps.drop (nxt ps jj) = stL k.ps (l.take (j + 1)) ps.tail) := ⟨by rw [HT1.out.1, HLL.out], by rw [HT1.out.2, HLL.out]⟩
          have HPK := Hid.mkR hpk4
          have hsz := G4.size
          clear hoi hpu hri htl HLL HT1 hpk4
          go_wp2_with (at_builtin; refine wpList_append_files _ rfl _ _ rfl _ _ ts [⟨str x.1, .slice a7 N7 c7⟩] ri rfl rfl ?hOwn ?hSrc ?hLen (.inr (Nat.succ_pos _)) ?_)
          case hOwn => exact HOI.out
          case hSrc => exact src_file w4 (str x.1) a7 N7 c7
          case hLen => first | (simp; omega) | omega
          intro v9 w9 g9 ho9 hg9 hr9
          have hv9 : ∃ a4 N4 c4, v9 = .slice a4 N4 c4 := ho9.shape.elim fun a4 h => h.elim fun c4 h2 => ⟨a4, _, c4, h2.1⟩
          obtain ⟨a9, N9, c9, rfl⟩ := hv9
          have hpk9 : PkAt w9 w.heap.size (.slice a n c) ps (nxt ps jj) := HPK.out.frame (fun y hy => (hg9.block y (by first | omega | (simp; omega)) (fun e => by have := HRI.out _ e.symm; omega)).trans (((Below.refl _ w4).alloc (Nat.le_refl _) _).block y (by omega)))
          have HF : Hid (CrS w w.heap.size (.slice a n c) k.ps ps ps.tail (l.take (j + 1)) (.slice a9 N9 c9) w9) := ⟨by rw [HSS.out.1]; exact HPU.out _ _ _ ho9 hg9 (by simpa using hr9), _, hpk9, HSS.out.2⟩
          clear ho9 hg9 hr9 HOI HPU HSS HPK HRI hpk9 d06
          go_wp2
          go_roundw
          case rel => exact ⟨j + 1, by omega, by go_num, HF⟩
          case measure => simp [intOf]; omega
      · have HL2 : Hid (lfR st gr (ps.drop jj) = (st.getD j1 [], (ps.drop jj).tail)) := by unfold Hid; rw [HL.out, if_neg (fun e => hz e.1)]
        have hzi : ¬ (j1 : Int) + 1 < (M : Int) := by omega
        clear HL
        have HLL : Hid (lfR st gr (ps.drop jj) = (st.getD j1 [], ps.drop (nxt ps jj))) := HL2.out.trans (by rw [nxt_tail])
        have d06 := ((HBW.out _ G4).cell (p := ⟨gl, j * 2, none⟩) (cell_lt HD0.out)).trans HD0.out
        obtain ⟨ts, ri, hoi, htl, hri, hpu⟩ := ImT.push (nm := x.1) HK.out.im (HK.out.im.grown G4 (Nat.le_refl _) (Nat.lt_succ_self _)) G4.size HO7.out (fun g e => Nat.le_of_lt (HR7.out g e)) (fun ts r blk hm => hm.frame G4 (fun g e => by cases e; exact Nat.lt_succ_self _)) (Nat.le_succ _)
        have htb : ts.length ≤ 2199023255000 := by rw [htl, crL2_len, List.length_take]; omega
        have HOI := Hid.mkR hoi
        have HPU := Hid.mkR hpu
        have HRI := Hid.mkR hri
        have HSS : Hid (crL2 k.ps (l.take (j + 1)) ps.tail = crL2 k.ps (l.take j) ps.tail ++ [(x.1, st.getD j1 [])] ∧ ps.drop (nxt ps jj) = stL k.ps (l.take (j + 1)) ps.tail) := ⟨by rw [HT1.out.1, HLL.out], by rw [HT1.out.2, HLL.out]⟩
        have HPK := Hid.mkR hpk4
        have hsz := G4.size
        clear hoi hpu hri htl HLL HT1 hpk4
        go_wp2_with (at_builtin; refine wpList_append_files _ rfl _ _ rfl _ _ ts [⟨str x.1, .slice a7 N7 c7⟩] ri rfl rfl ?hOwn ?hSrc ?hLen (.inr (Nat.succ_pos _)) ?_)
        case hOwn => exact HOI.out
        case hSrc => exact src_file w4 (str x.1) a7 N7 c7
        case hLen => first | (simp; omega) | omega
        intro v9 w9 g9 ho9 hg9 hr9
        have hv9 : ∃ a4 N4 c4, v9 = .slice a4 N4 c4 := ho9.shape.elim fun a4 h => h.elim fun c4 h2 => ⟨a4, _, c4, h2.1⟩
        obtain ⟨a9, N9, c9, rfl⟩ := hv9
        have hpk9 : PkAt w9 w.heap.size (.slice a n c) ps (nxt ps jj) := HPK.out.frame (fun y hy => (hg9.block y (by first | omega | (simp; omega)) (fun e => by have := HRI.out _ e.symm; omega)).trans (((Below.refl _ w4).alloc (Nat.le_refl _) _).block y (by omega)))
        have HF : Hid (CrS w w.heap.size (.slice a n c) k.ps ps ps.tail (l.take (j + 1)) (.slice a9 N9 c9) w9) := ⟨by rw [HSS.out.1]; exact HPU.out _ _ _ ho9 hg9 (by simpa using hr9), _, hpk9, HSS.out.2⟩
        clear ho9 hg9 hr9 HOI HPU HSS HPK HRI hpk9 d06
        go_wp2
        go_roundw
        case rel => exact ⟨j + 1, by omega, by go_num, HF⟩
        case measure => simp [intOf]; omega
    · have hke : j = l.length := by omega
      have HF : Hid (ImgAt wr (.slice a2 N2 cap2) (crL2 k.ps l ps.tail) w.heap.size ∧ Below w.heap.size w wr) := by have := HK.out.im; rw [hke, List.take_length] at this; exact ⟨ImgAt.base this.1 (Nat.le_succ _), this.2.1⟩
      clear HK hke hbw
      go_wp2
      go_ret
      exact ⟨_, _, _, rfl, HF.out⟩
end Go.Proofs.YthcnhjmkcekdaaaGreat
