import Derived.Test.YtgpmhflndcppeaaQp25
/-! The law on the past: how it begins. -/
namespace Go.Proofs.Ytgpmhflndcppeaa
open Go.RowKit Go.Maps Plain
set_option linter.unusedVariables false
set_option linter.unusedSimpArgs false

theorem PdAt.used {W w : World} {d gp : Nat} {k : Dk} {p : Ps} (h : PdAt W d gp k p w) : Calls Try.prog 15 #[.pointer (some ⟨d, 0, none⟩)] w fun e w' => e = .returned (.int .i64 k.used) ∧ w' = w := by
  obtain ⟨h0, S, T, h1, -⟩ := h
  exact usedOf (St.start h1)
theorem PdAt.zero {W w : World} {d : Nat} {k : Dk} (h : Dsk W d k w) : PdAt W d (w.heap.size + 1) k ⟨[], [], [[]]⟩ ((w.alloc (.cells #[.slice none 0 0] 54)).alloc (.cells #[.slice none 0 0, .slice none 0 0, .slice (some ⟨w.heap.size, 0, none⟩) 1 1] 51)) := by
  obtain ⟨h0, S, h1, h2⟩ := h
  have hs := h0.size
  obtain ⟨u, hu⟩ : ∃ u, w.alloc (.cells #[.slice none 0 0] 54) = u := ⟨_, rfl⟩
  have hus : u.heap.size = w.heap.size + 1 := by rw [← hu]; simp
  rw [hu, ← hus]
  have hbu : Below w.heap.size w u := by rw [← hu]; exact (Below.refl _ _).alloc (Nat.le_refl _) _
  have hD : OwnV u (.slice (some ⟨w.heap.size, 0, none⟩) 1 1) [.slice none 0 0] (some w.heap.size) := by rw [← hu]; exact OwnV.one w _ _
  obtain ⟨v, hv⟩ : ∃ v, u.alloc (.cells #[.slice none 0 0, .slice none 0 0, .slice (some ⟨w.heap.size, 0, none⟩) 1 1] 51) = v := ⟨_, rfl⟩
  have hbv : Below u.heap.size u v := by rw [← hv]; exact (Below.refl _ _).alloc (Nat.le_refl _) _
  have hvs : v.heap.size = u.heap.size + 1 := by rw [← hv]; simp
  have hb : Below w.heap.size w v := hbu.trans (hbv.mono hbu.size)
  have hc : ∀ j x, [Value.slice none 0 0, .slice none 0 0, .slice (some ⟨w.heap.size, 0, none⟩) 1 1][j]? = some x → v.cell? ⟨u.heap.size, j, none⟩ = some x := fun j x hj => by
    rw [← hv, World.cell?_alloc_at _ _ _ _ rfl, ← hj]; simp
  rw [hv]
  refine ⟨h0.trans (hb.mono h0.size), S, fun x => x = u.heap.size ∨ x = w.heap.size, h1.later hb, ⟨fun _ => False, .slice none 0 0, .slice none 0 0, _, none, none, some w.heap.size, [], [], [.slice none 0 0], fun _ => none, fun _ => none, fun _ => [], fun _ => [], ⟨hc 0 _ rfl, hc 1 _ rfl, hc 2 _ rfl, fun j => ?_, ?_, ?_, hD.lat hbv, rfl, fun j hj => ?_, fun g e => ?_, fun g e => ?_, fun g e => ?_, fun e => e, fun g e => e.elim⟩, fun g e => ?_⟩, fun x hx ht => ?_, h2, fun x hx => ?_⟩
  · rw [← hv]; exact World.frozen?_alloc_at _ _ _ _ rfl
  · exact ⟨.inl ⟨rfl, rfl, rfl⟩, rfl, fun n hn => by simp at hn, fun n hn => by simp at hn, fun n hn => by simp at hn, fun n hn => by simp at hn, fun n m hn => by simp at hn⟩
  · exact ⟨.inl ⟨rfl, rfl, rfl⟩, rfl, fun n hn => by simp at hn, fun n hn => by simp at hn, fun n hn => by simp at hn, fun n hn => by simp at hn, fun n m hn => by simp at hn⟩
  · have : j = 0 := by simp at hj; omega
    subst this
    exact ⟨none, OwnNw.nil _, by simp⟩
  · rcases e with e | ⟨n, hn, e⟩
    · cases e
    · cases e
  · rcases e with e | ⟨n, hn, e⟩
    · cases e
    · cases e
  · cases e
    exact ⟨by omega, fun e => e⟩
  · rcases e with e | (e | ⟨n, hn, e⟩) | (e | ⟨n, hn, e⟩) | e | e
    · exact .inl e
    · cases e
    · cases e
    · cases e
    · cases e
    · cases e; exact .inr rfl
    · exact e.elim
  · have := h1.rng x hx
    rcases ht with e | e <;> omega
  · rcases hx with e | e <;> constructor <;> omega
set_option maxHeartbeats 4000000 in
set_option maxRecDepth 100000 in
theorem pastOf {W w : World} {d G : Nat} {q : Int} (h : Dsk W d (bg q G) w) (q0 : 0 ≤ q) (q1 : q ≤ 1073741824) : Calls Try.prog 5 #[.pointer (some ⟨d, 0, none⟩)] w fun e w' => ∃ gp p ν, e = .returned (.pointer (some ⟨gp, 0, none⟩)) ∧ PdAt W d gp (bg q G) p w' ∧ PsR (bg q G) ν p ∧ PsS p 2 := by
  have HP0 := Hid.mkP (PdAt.zero h)
  clear h
  have hD1 : (e1 q G).Dok 1 := e1_dok q G
  have hch : chK (Dk.fresh q) 1 nmF ⟨#[]⟩ 0 [] G = (0, e1 q G) := by unfold chK; rw [if_pos rfl]; exact x1 q G
  have HN1 : Hid (Calls Try.prog 9 #[.pointer (some ⟨w.heap.size + 1, 0, none⟩), .agg #[.int .i64 1, .string ⟨#[102, 105, 114, 115, 116]⟩, .string ⟨#[]⟩, .int .i64 0, .int .i64 0, .slice none 0 0, .slice none 0 0]] ((w.alloc (.cells #[.slice none 0 0] 54)).alloc (.cells #[.slice none 0 0, .slice none 0 0, .slice (some ⟨w.heap.size, 0, none⟩) 1 1] 51)) fun e w3 => e = .returned (.bool true) ∧ Hid (∃ p1 ν1, PdAt W d (w.heap.size + 1) (bg q G) p1 w3 ∧ PsR (e1 q G) ν1 p1 ∧ PsS p1 1)) := by
    obtain ⟨T, hPa, hback⟩ := HP0.out.past
    obtain ⟨ν1, p1, a1, a2, a3⟩ := noteStep (kd := 1) (at' := 0) (m := 0) (nm := nmF) (to := ⟨#[]⟩) (vb := .slice none 0 0) (vp := .slice none 0 0) (b := []) (by omega) (by omega) hch (PsR.zero q) PsS.zero (fresh_dok q) hD1 (fresh_past q) (fun h => h) (fresh_nme q) (by omega) (BytesAt.nil _) hPa
    refine a3.mono ?_
    rintro e w3 ⟨rfl, h3⟩
    exact ⟨rfl, p1, ν1, hback p1 w3 h3, a1, a2⟩
  clear HP0
  go_enter Try.func5, Try.ntmps5
  go_wp2_with fail
  refine HN1.out.mono ?_
  rintro e w3 ⟨rfl, HQ⟩
  obtain ⟨p1, ν1, hPd, hR, hS⟩ := HQ.out
  have HU := Hid.mkP hPd.used
  have HPd := Hid.mkP hPd
  have HR := Hid.mkP hR
  have HS := Hid.mkP hS
  clear HN1 HQ hPd hR hS
  go_wp2_with fail
  refine HU.out.mono ?_
  rintro e w4 ⟨rfl, rfl⟩
  clear HU
  by_cases e0 : q = 0
  · have hu : (bg q G).used = 0 := by rw [e0]; rfl
    have hbg : bg q G = e1 q G := by rw [e0]; rfl
    rw [hu]
    go_wp2
    go_ret
    refine ⟨_, p1, ν1, rfl, HPd.out, by rw [hbg]; exact HR.out, ?_⟩
    have := HS.out
    exact ⟨Nat.le_succ_of_le this.fl, this.len, fun f hf => ⟨(this.gl f hf).1, (this.gl f hf).2.1, Nat.le_succ_of_le (this.gl f hf).2.2⟩⟩
  · have hbg : bg q G = e2 q G := by unfold bg; rw [if_neg e0]
    have hu : (bg q G).used = 1 := by rw [hbg]; rfl
    have hch2 : chK (e1 q G) 2 nmF ⟨#[]⟩ 0 [7] (G + 1) = (0, e2 q G) := by unfold chK; rw [if_neg (by decide), if_pos rfl]; exact x2 q G (by omega)
    have HN2 : Hid (Calls Try.prog 9 #[.pointer (some ⟨w.heap.size + 1, 0, none⟩), .agg #[.int .i64 2, .string ⟨#[102, 105, 114, 115, 116]⟩, .string ⟨#[]⟩, .int .i64 0, .int .i64 0, .slice (some ⟨w4.heap.size, 0, none⟩) 1 1, .slice none 0 0]] (w4.alloc (.cells #[.int .u8 7] 5)) fun e w5 => e = .returned (.bool true) ∧ Hid (∃ p2 ν2, PdAt W d (w.heap.size + 1) (bg q G) p2 w5 ∧ PsR (e2 q G) ν2 p2 ∧ PsS p2 2)) := by
      have hP4 := HPd.out.later ((Below.refl _ w4).alloc (Nat.le_refl _) (.cells #[.int .u8 7] 5))
      obtain ⟨T, hPa, hback⟩ := hP4.past
      have hpa1 : (e1 q G).Past := by
        have := (fresh_past q).chK (fresh_dok q) (G := G) (kd := 1) (nm := nmF) (to := ⟨#[]⟩) (m := 0) (l := [])
        rw [hch] at this
        exact this
      have hnm1 : (e1 q G).Nme := by
        have := (fresh_nme q).step (G := G) (kd := 1) (nm := nmF) (to := ⟨#[]⟩) (m := 0) (b := [])
        rw [hch] at this
        exact this
      have hby : BytesAt (w4.alloc (.cells #[.int .u8 7] 5)) (.slice (some ⟨w4.heap.size, 0, none⟩) 1 1) [7] := by
        refine ⟨_, _, rfl, by simp, by unfold maxLen; omega, by simp, fun _ => ⟨_, _, rfl, fun j hj => ?_⟩⟩
        have : j = 0 := by simp at hj; omega
        subst this
        rw [World.cell?_alloc_at _ _ _ _ rfl]; rfl
      obtain ⟨ν2, p2, a1, a2, a3⟩ := noteStep (kd := 2) (at' := 0) (m := 0) (nm := nmF) (to := ⟨#[]⟩) (vp := .slice none 0 0) (by omega) (by omega) hch2 HR.out HS.out hD1 (e2_dok q G (by omega) q1) hpa1 (by show ¬ lv1 G (G + 1); simp [lv1]) hnm1 (by omega) hby hPa
      refine a3.mono ?_
      rintro e w5 ⟨rfl, h3⟩
      exact ⟨rfl, p2, ν2, hback p2 w5 h3, a1, a2⟩
    rw [hu]
    clear HPd HR HS
    go_wp2_with fail
    refine HN2.out.mono ?_
    rintro e w5 ⟨rfl, HQ⟩
    go_wp2
    go_ret
    obtain ⟨p2, ν2, b1, b2, b3⟩ := HQ.out
    exact ⟨_, p2, ν2, rfl, b1, by rw [hbg]; exact b2, b3⟩
end Go.Proofs.Ytgpmhflndcppeaa

/-! The law on the past: all that it keeps; a crash, an image, a change. -/
namespace Go.Proofs.Ytgpmhflndcppeaa
open Go.RowKit Go.Maps Plain
set_option linter.unusedVariables false
set_option linter.unusedSimpArgs false

set_option maxHeartbeats 2000000 in
theorem chK_same (k : Dk) (kd : Int) (nm to : ByteArray) (m : Int) (b : List Nat) (G : Nat) : (chK k kd nm to m b G).1 = 0 ∨ ((chK k kd nm to m b G).2.Ld = k.Ld ∧ (chK k kd nm to m b G).2.chg = k.chg ∧ (chK k kd nm to m b G).2.file = k.file ∧ (chK k kd nm to m b G).2.live = k.live) := by
  unfold chK createK appendK truncK syncK syncDirK renameK removeK
  repeat' split
  all_goals first | exact .inl rfl | exact .inr ⟨rfl, rfl, rfl, rfl⟩
structure PdG (W : World) (d gp : Nat) (k : Dk) (p : Ps) (n : Nat) (w : World) : Prop where
  pd : PdAt W d gp k p w
  r : ∃ ν, PsR k ν p
  s : PsS p n
  good : k.Good n
  past : k.Past
  nme : k.Nme
theorem PdG.later {W w w' : World} {d gp n : Nat} {k : Dk} {p : Ps} (h : PdG W d gp k p n w) (hb : Below w.heap.size w w') : PdG W d gp k p n w' := ⟨h.pd.later hb, h.r, h.s, h.good, h.past, h.nme⟩
theorem PdG.mono {W w : World} {d gp n m : Nat} {k : Dk} {p : Ps} (h : PdG W d gp k p n w) (hm : n ≤ m) : PdG W d gp k p m w := ⟨h.pd, h.r, ⟨Nat.le_trans h.s.fl hm, h.s.len, fun f hf => ⟨(h.s.gl f hf).1, (h.s.gl f hf).2.1, Nat.le_trans (h.s.gl f hf).2.2 (by omega)⟩⟩, h.good.mono hm, h.past, h.nme⟩
theorem PdG.knows {W w : World} {d gp n : Nat} {k : Dk} {p : Ps} (h : PdG W d gp k p n w) (hn : n ≤ 2000000000000) {v : Value} {im : List (Nm × List Nat)} {base : Nat} (hi : ImgAt w v im base) (hil : im.length ≤ 2199023255552) (hk : knownB p im = true) :
    Calls Try.prog 6 #[.pointer (some ⟨gp, 0, none⟩), v] w fun e w' => e = .returned (.bool true) ∧ ∃ n, w' = w.drewN n := by
  obtain ⟨ν, hr⟩ := h.r
  obtain ⟨h0, S, T, h1, ⟨B, vF, vG, vD, rF, rG, rD, fv, gv, dv, rf, rg, sv, tv, hP, hT⟩, -⟩ := h.pd
  have := knownOf hP (h.s.ok hr h.good.dok h.past hn) v im base hi hil
  rw [hk] at this
  exact this
theorem PdG.crash {W w : World} {d gp n : Nat} {k : Dk} {p : Ps} (h : PdG W d gp k p n w) (hn : n ≤ 2000000000000) {a : Option Addr} {m c : Nat} {ps : List Int} (hps : PicksAt w (.slice a m c) ps) (hpo : PicksOff w.heap.size (.slice a m c)) :
    Calls Try.prog 7 #[.pointer (some ⟨d, 0, none⟩), .slice a m c] w fun e w2 => ∃ a l c, e = .returned (.slice a l c) ∧ Below w.heap.size w w2 ∧ Hid (Calls Try.prog 6 #[.pointer (some ⟨gp, 0, none⟩), .slice a l c] w2 fun e w' => e = .returned (.bool true) ∧ ∃ n, w' = w2.drewN n) := by
  obtain ⟨ν, hr⟩ := h.r
  have hkn : knownB p (crK k ps) = true := known_crash hr h.good.dok h.past hn ps
  have h' := h
  obtain ⟨h0, S, T, h1, -⟩ := h.pd
  obtain ⟨c1, c2⟩ := h.past.crash h.good.dok hn ps
  refine (crashOf w d k n S h1 h.good.dok a m c ps hps hpo c1 c2).mono ?_
  rintro e w2 ⟨a2, l2, c3, rfl, hi, hb⟩
  refine ⟨a2, l2, c3, rfl, hb, (h'.later hb).knows hn hi ?_ hkn⟩
  have : (crK k ps).length = (crL k ps).length := by
    have h9 : (crK k ps).map (·.1) = nms (crL k ps) := imgL_names' _ _ _ _ _
    have := congrArg List.length h9
    rw [List.length_map, nms_len] at this
    exact this
  omega
theorem PdG.image {W w : World} {d gp n : Nat} {k : Dk} {p : Ps} (h : PdG W d gp k p n w) (hn : n ≤ 2000000000000) :
    Calls Try.prog 10 #[.pointer (some ⟨d, 0, none⟩)] w fun e w2 => ∃ a l c, e = .returned (.slice a l c) ∧ Below w.heap.size w w2 ∧ Hid (Calls Try.prog 6 #[.pointer (some ⟨gp, 0, none⟩), .slice a l c] w2 fun e w' => e = .returned (.bool true) ∧ ∃ n, w' = w2.drewN n) := by
  obtain ⟨ν, hr⟩ := h.r
  have hkn : knownB p (imK k) = true := known_image hr h.good.dok
  obtain ⟨T, hD, -⟩ := h.pd.disk
  refine (imageP hD h.good.dok).mono ?_
  rintro e w2 ⟨a2, l2, c3, rfl, hi, -, hb⟩
  refine ⟨a2, l2, c3, rfl, hb, (h.later hb).knows hn hi ?_ hkn⟩
  have := imK_len h.good.dok
  omega
/-- The same, and a box that was made meanwhile. -/
theorem PdAt.diskX {W w0 w : World} {d gp Bx : Nat} {k : Dk} {p : Ps} (h : PdAt W d gp k p w0) (hb : Below w0.heap.size w0 w) (hB1 : w0.heap.size ≤ Bx) (hB2 : Bx < w.heap.size) : ∃ P : Nat → Prop, DskP P w d k w ∧ (∀ x, x < W.heap.size → P x) ∧ P Bx ∧ ∀ (k' : Dk) (w' : World), DskP P w d k' w' → PdAt W d gp k' p w' := by
  have hl := h.later hb
  obtain ⟨h0, S, T, h1, h2, h3, h4, h5⟩ := h
  have hs := h0.size
  have hs2 := hb.size
  have hr := h1.rng
  have h0' := hl.1
  refine ⟨fun x => x < W.heap.size ∨ T x ∨ x = Bx, ⟨Keep.refl (fun x hx => ?_), S, h1.later hb, fun x hx hp => ?_⟩, fun x hx => .inl hx, .inr (.inr rfl), fun k' w' hk => ?_⟩
  · rcases hx with e | e | e
    · omega
    · have := (h5 x e).2; omega
    · omega
  · rcases hp with e | e | e
    · have := h4 x hx; omega
    · exact h3 x hx e
    · have := hr x hx; omega
  · obtain ⟨g1, S', g2, g3⟩ := hk
    have hT : PaAt w gp p T := h2.frame hb.size (fun x hx => hb.block x (h5 x hx).2)
    refine ⟨⟨g1.os.trans h0'.os, g1.tape.trans h0'.tape, g1.output.trans h0'.output, Nat.le_trans h0'.size g1.size, fun x hx => (g1.block x (.inl hx)).trans (h0'.block x hx)⟩, S', T, g2, hT.frame g1.size (fun x hx => g1.block x (.inr (.inl hx))), fun x hx ht => g3 x hx (.inr (.inl ht)), fun x hx => ?_, fun x hx => ⟨(h5 x hx).1, by have := (h5 x hx).2; have := g1.size; omega⟩⟩
    exact Nat.le_of_not_lt fun e => g3 x hx (.inl e)
/-- A step. -/
theorem PdG.change {W w0 w : World} {d gp n Bx : Nat} {k : Dk} {p : Ps} (hg0 : PdG W d gp k p n w0) (hbx : Below w0.heap.size w0 w) (hB1 : w0.heap.size ≤ Bx) (hB2 : Bx < w.heap.size) (hn : n ≤ 1999999999999) (kd : Int) (nm to : ByteArray) (at' m : Int) (vb vp : Value) (l : List Nat) (hk1 : 1 ≤ kd) (hk7 : kd ≤ 7) (hs : nm.size ≤ maxLen) (ht : to.size ≤ maxLen) (hm : I64 m) (hw : ∀ w', Below W.heap.size W w' → BytesAt w' vb l) (hl : l.length ≤ 140737488351232) :
    Calls Try.prog 8 #[.pointer (some ⟨d, 0, none⟩), .agg #[.int .i64 kd, .string nm, .string to, .int .i64 at', .int .i64 m, vb, vp]] w fun e w2 => ∃ x, e = .returned (.tuple #[.int .i64 x, .bool true]) ∧ w2.heap[Bx]? = w.heap[Bx]? ∧ Hid ((x ≠ 0 → ∃ k', PdG W d gp k' p (n + 1) w2) ∧ (x = 0 → ∀ w3, Below w2.heap.size w2 w3 → Calls Try.prog 9 #[.pointer (some ⟨gp, 0, none⟩), .agg #[.int .i64 kd, .string nm, .string to, .int .i64 at', .int .i64 m, vb, vp]] w3 fun e w4 => e = .returned (.bool true) ∧ ∃ k' p', PdG W d gp k' p' (n + 1) w4)) := by
  have h := hg0.later hbx
  obtain ⟨ν, hr⟩ := h.r
  obtain ⟨P, hD, hP1, hP2, hback⟩ := hg0.pd.diskX hbx hB1 hB2
  have h0 := h.pd.1
  refine (changeAllP kd nm to at' m vb vp l hk1 hk7 hD hs ht hm (fun w' hk => ?_) hl h.good.dok h.good.sum.uok (by omega)).mono ?_
  · have hb : Below W.heap.size W w' := ⟨hk.os.trans h0.os, hk.tape.trans h0.tape, hk.output.trans h0.output, Nat.le_trans h0.size hk.size, fun x hx => (hk.block x (hP1 x hx)).trans (h0.block x hx)⟩
    exact hw w' hb
  rintro e w2 ⟨G, hGs, rfl, hD2⟩
  have hPd := hback _ w2 hD2
  have hG : ¬ k.live G := fun hl => by
    have := hD.liveLt hl
    omega
  have hgd := h.good.chK (kd := kd) (m := m) (l := l) hs ht (by omega) hG
  have hpa := h.past.chK h.good.dok (G := G) (kd := kd) (nm := nm) (to := to) (m := m) (l := l)
  have hnme := h.nme.step (G := G) (kd := kd) (nm := nm) (to := to) (m := m) (b := l)
  refine ⟨_, rfl, hD2.1.block Bx hP2, fun hx => ?_, fun hx w3 hb3 => ?_⟩
  · rcases chK_same k kd nm to m l G with e | ⟨e1, e2, e3, e4⟩
    · exact absurd e hx
    · refine ⟨_, hPd, ⟨ν, hr.same e1 e2 e3 e4⟩, ?_, hgd, hpa, hnme⟩
      exact ⟨Nat.le_succ_of_le h.s.fl, h.s.len, fun f hf => ⟨(h.s.gl f hf).1, (h.s.gl f hf).2.1, Nat.le_succ_of_le (h.s.gl f hf).2.2⟩⟩
  · obtain ⟨k', e2⟩ : ∃ k', chK k kd nm to m l G = (0, k') := ⟨(chK k kd nm to m l G).2, Prod.ext hx rfl⟩
    rw [e2] at hgd hpa hnme hPd
    have hP3 := hPd.later hb3
    obtain ⟨T3, hPa, hback3⟩ := hP3.past
    obtain ⟨ν', p', a1, a2, a3⟩ := noteStep (at' := at') (vb := vb) (vp := vp) hk1 hk7 e2 hr h.s h.good.dok hgd.dok h.past hG h.nme (by omega) (hw w3 hP3.1) hPa
    refine a3.mono ?_
    rintro e w4 ⟨rfl, h4⟩
    exact ⟨rfl, k', p', hback3 p' w4 h4, ⟨ν', a1⟩, a2, hgd, hpa, hnme⟩
end Go.Proofs.Ytgpmhflndcppeaa

/-! The law on the past: its walk. -/
namespace Go.Proofs.Ytgpmhflndcppeaa
open Go.RowKit Go.Maps Plain
set_option linter.unusedVariables false
set_option linter.unusedSimpArgs false

set_option maxHeartbeats 40000000 in
set_option maxRecDepth 1000000 in
theorem pastWalk (q : Int) (hq : I64 q) (v : Value) (st : List Sp) (w : World) (h : ScrAt w v st) (hpk : ∀ s ∈ st, ∃ ps, PicksAt w s.vp ps ∧ PicksOff w.heap.size s.vp) : Calls Try.prog 3 #[.int .i64 q, v] w fun e w' => e = .returned (.bool true) ∧ Below w.heap.size w w' := by
  obtain ⟨a, cap, rfl, hlc, hcm, hlen, hok, hcells⟩ := h
  unfold maxLen at hcm
  have HC : Hid (st ≠ [] → ∃ b off, a = some ⟨b, off, none⟩ ∧ ∀ j, j < st.length → SpAt w b (off + j * 7) (st.getD j Sp.none)) := hcells
  have HOK : Hid (∀ s ∈ st, s.Ok) := hok
  have HPK : Hid (∀ s ∈ st, ∃ ps, PicksAt w s.vp ps ∧ PicksOff w.heap.size s.vp) := hpk
  have HBG : Hid (Calls Try.prog 4 #[.int .i64 q] w (BgPost q w)) := begunOf q hq w
  clear hcells hok hpk
  go_enter Try.func3, Try.ntmps3
  go_wp2_with fail
  refine HBG.out.mono ?_
  rintro e w1 (⟨_, rfl, hb⟩ | ⟨d, G0, rfl, hd, q0, q1⟩)
  · have HF : Hid (Below w.heap.size w w1) := hb
    clear hb
    go_wp2
    go_ret
    exact ⟨rfl, HF.out⟩
  have HPS := Hid.mkP (pastOf hd q0 q1)
  have HB0 : Hid ((bg q G0).Good 2 ∧ (bg q G0).Past ∧ (bg q G0).Nme) := ⟨⟨bg_dok q G0 q0 q1, bg_sum q G0 q0 q1, bg_on q G0⟩, bg_past q G0, fun x hx => by
    have : x = (kF, G0) := by
      unfold bg at hx
      split at hx <;> exact List.mem_singleton.mp hx
    rw [this]; unfold kF; simp⟩
  clear hd
  go_wp2_with fail
  refine HPS.out.mono ?_
  rintro e w2 ⟨gp, p0, ν0, rfl, hPd, hR, hS⟩
  have H0 : Hid (∃ k p, PdG w d gp k p (2 + 0) w2) := ⟨_, p0, hPd, ⟨ν0, hR⟩, hS, HB0.out.1, HB0.out.2.1, HB0.out.2.2⟩
  clear hPd hR hS HPS HB0
  go_wp2_with fail
  go_loopg [8] st.length (fun gk s8 wx => ∃ (i : Nat), i + gk = st.length ∧ s8 = .int .i64 i ∧ Hid (∃ k p, PdG w d gp k p (2 + i) wx))
  case atStart => exact ⟨0, by omega, rfl, H0.out⟩
  case round =>
    obtain ⟨i, hig, rfl, HV⟩ := hrel
    cases gk with
    | zero =>
      obtain ⟨k, p, hG⟩ := HV.out
      have HG := Hid.mkP hG
      have HI := Hid.mkP (hG.image (by omega))
      obtain rfl : i = st.length := by omega
      clear hG HV
      go_wp2_with fail
      refine HI.out.mono ?_
      rintro e w3 ⟨a3, l3, c3, rfl, hb3, HK3⟩
      have HB3 := Hid.mkP hb3
      clear hb3 HI
      go_wp2_with fail
      refine HK3.out.mono ?_
      rintro e w4 ⟨rfl, n4, rfl⟩
      have HG4 : Hid (PdG w d gp k p (2 + st.length) (w3.drewN n4)) := (HG.out.later HB3.out).later (below_drewN (Below.refl _ _) n4)
      have HCR := Hid.mkP (HG4.out.crash (by omega) (a := none) (m := 0) (c := 0) (ps := []) ⟨none, 0, rfl, by simp, by simp, by simp, by simp⟩ (fun b off n c e => by cases e))
      clear HK3 HG HB3
      go_wp2_with fail
      refine HCR.out.mono ?_
      rintro e w5 ⟨a5, l5, c5, rfl, hb5, HK5⟩
      have HG5 : Hid (Below w.heap.size w w5) := (HG4.out.later hb5).pd.1
      clear hb5 HCR HG4
      go_wp2_with fail
      refine HK5.out.mono ?_
      rintro e w6 ⟨rfl, n6, rfl⟩
      have HF : Hid (Below w.heap.size w (w5.drewN n6)) := below_drewN HG5.out n6
      clear HK5 HG5
      go_wp2
      go_ret
      exact ⟨rfl, HF.out⟩
    | succ gk1 =>
      obtain ⟨k, p, hG⟩ := HV.out
      have hi : i < st.length := by omega
      have hne : st ≠ [] := by rintro rfl; simp at hi
      obtain ⟨b, off, rfl, hc⟩ := HC.out hne
      have hsp := (hc i hi)
      have hmem : st.getD i Sp.none ∈ st := by simp [hi]
      have hsok := HOK.out (st.getD i Sp.none) hmem
      obtain ⟨ps, hps, hpo⟩ := HPK.out (st.getD i Sp.none) hmem
      have hspr := hsp.later hG.pd.1
      generalize st.getD i Sp.none = x at hsp hsok hspr hps hpo
      obtain ⟨kd, nm, to, at', n, vb, vp, data⟩ := x
      obtain ⟨c0, c1, c2, c3, c4, c5, c6, _⟩ := hspr
      obtain ⟨o1, o2, o3, o4, o5, o6⟩ := hsok
      have hrow := hsp.row
      simp only at c0 c1 c2 c3 c4 c5 c6 o1 o2 o3 o4 o5 o6 hrow hps hpo
      obtain ⟨ap, mp, cp, rfl⟩ := o6
      have HROW : Hid (BytesAt w vb data) := hrow
      obtain ⟨ab, cb, hvb, hb1, hb2, _⟩ := hrow
      unfold maxLen at hb2
      subst hvb
      obtain ⟨W1, hW1⟩ : ∃ W1, wr.alloc (.cells #[.int .i64 kd, .string nm, .string to, .int .i64 at', .int .i64 n, .slice ab data.length cb, .slice ap mp cp] 31) = W1 := ⟨_, rfl⟩
      have hBW : Below wr.heap.size wr W1 := by rw [← hW1]; exact (Below.refl _ _).alloc (Nat.le_refl _) _
      have HG1 : Hid (PdG w d gp k p (2 + i) W1) := hG.later hBW
      have HG0 := Hid.mkP hG
      have HBW := Hid.mkP hBW
      have HS1 : Hid (SbAt W1 wr.heap.size (stepC kd nm to at' n (.slice ab data.length cb) (.slice ap mp cp))) := by rw [← hW1]; exact SbAt.new wr _ _
      have HPP : Hid (PicksAt W1 (.slice ap mp cp) ps ∧ PicksOff W1.heap.size (.slice ap mp cp)) := by
        have hb := HG1.out.pd.1
        exact ⟨hps.cells hpo (fun b hb2 => hb.block b hb2), fun b off n c e h0 => Nat.lt_of_lt_of_le (hpo b off n c e h0) hb.size⟩
      obtain ⟨o1a, o1b⟩ := o1
      have z0 := HS1.out 0 _ rfl
      have z1 := HS1.out 1 _ rfl
      have z2 := HS1.out 2 _ rfl
      have z3 := HS1.out 3 _ rfl
      have z4 := HS1.out 4 _ rfl
      have z5 := HS1.out 5 _ rfl
      have z6 := HS1.out 6 _ rfl
      clear hG HV hc hsp hBW hne hps hpo
      by_cases h13 : kd = 13
      · subst h13
        have HCR := Hid.mkP (HG1.out.crash (by omega) HPP.out.1 HPP.out.2)
        go_wp2_with fail
        refine HCR.out.mono ?_
        rintro e w3 ⟨a3, l3, c3', rfl, hb3, HK3⟩
        have HG3 : Hid (PdG w d gp k p (2 + i) w3) := HG1.out.later hb3
        clear hb3 HCR z0 z1 z2 z3 z4 z5 z6
        go_wp2_with fail
        refine HK3.out.mono ?_
        rintro e w4 ⟨rfl, n4, rfl⟩
        have HN : Hid (∃ k p, PdG w d gp k p (2 + (i + 1)) (w3.drewN n4)) := ⟨k, p, (HG3.out.later (below_drewN (Below.refl _ _) n4)).mono (by omega)⟩
        clear HK3 HG3
        go_wp2
        go_roundg gk1
        case measure => omega
        case rel => exact ⟨i + 1, by omega, by go_num, HN⟩
      by_cases hlo : kd < 1
      · have HN : Hid (∃ k p, PdG w d gp k p (2 + (i + 1)) W1) := ⟨k, p, HG1.out.mono (by omega)⟩
        go_wp2
        go_roundg gk1
        case measure => omega
        case rel => exact ⟨i + 1, by omega, by go_num, HN⟩
      by_cases hhi : 7 < kd
      · have HN : Hid (∃ k p, PdG w d gp k p (2 + (i + 1)) W1) := ⟨k, p, HG1.out.mono (by omega)⟩
        go_wp2
        go_roundg gk1
        case measure => omega
        case rel => exact ⟨i + 1, by omega, by go_num, HN⟩
      have HCH := Hid.mkP (HG0.out.change HBW.out (Bx := wr.heap.size) (Nat.le_refl _) (cell_lt z0) (by omega) kd nm to at' n (.slice ab data.length cb) (.slice ap mp cp) data (by omega) (by omega) o3 o4 o2 (fun w' hb => HROW.out.later hb) o5)
      go_wp2_with fail
      refine HCH.out.mono ?_
      rintro e w3 ⟨x, rfl, hbk, HX⟩
      have HS3 := Hid.mkP (HS1.out.of_block hbk)
      clear HCH hbk z0 z1 z2 z3 z4 z5 z6
      have z0 := HS3.out 0 _ rfl
      have z1 := HS3.out 1 _ rfl
      have z2 := HS3.out 2 _ rfl
      have z3 := HS3.out 3 _ rfl
      have z4 := HS3.out 4 _ rfl
      have z5 := HS3.out 5 _ rfl
      have z6 := HS3.out 6 _ rfl
      by_cases hx0 : x = 0
      · subst hx0
        have HNT := Hid.mkP (HX.out.2 rfl w3 (Below.refl _ _))
        clear HX
        go_wp2_with fail
        refine HNT.out.mono ?_
        rintro e w4 ⟨rfl, HN0⟩
        have HN : Hid (∃ k p, PdG w d gp k p (2 + (i + 1)) w4) := by
          obtain ⟨k', p', h4⟩ := HN0
          exact ⟨k', p', h4⟩
        clear HNT HN0 z0 z1 z2 z3 z4 z5 z6
        go_wp2
        go_roundg gk1
        case measure => omega
        case rel => exact ⟨i + 1, by omega, by go_num, HN⟩
      · have HN : Hid (∃ k p, PdG w d gp k p (2 + (i + 1)) w3) := by
          obtain ⟨k', h4⟩ := HX.out.1 hx0
          exact ⟨k', p, h4⟩
        clear HX
        go_wp2
        go_roundg gk1
        case measure => omega
        case rel => exact ⟨i + 1, by omega, by go_num, HN⟩
end Go.Proofs.Ytgpmhflndcppeaa

/-! The law on the past: the picks of a script's steps, as they came in. -/
namespace Go.Proofs.Ytgpmhflndcppeaa
open Go.RowKit Go.Maps Plain
open Go.Deep Go.ChangeShapes Go.WideShapes Go.ChangeAt
set_option linter.unusedVariables false
set_option linter.unusedSimpArgs false

theorem open_pk {H : Type} {enc : TypeId × Value → H} {W : World} {fuel : Nat} {v : Value} {x : DataW H × List MemPlace} (h : DataW.trod enc Try.prog W 0 (fun _ => true) true fuel 29 [v] = some x) : ∃ ps, PicksAt W v ps ∧ PicksOff W.heap.size v := by
  rcases open_ints Try.underlying29 Try.underlying3 (by kernel_rfl) h with ⟨hcs, _⟩ | ⟨x, len, cap, zs, hcs, hbk, hl, hm, hz, hx, hcell, hwz⟩
  · simp at hcs
    subst hcs
    exact ⟨[], ⟨none, 0, rfl, by simp, by simp, by simp, by simp⟩, fun b off n c e => by cases e⟩
  · simp at hcs
    subst hcs
    simp only [if_true] at hz
    have hlt : (zs.take len).length = len := by simp; omega
    obtain ⟨b, off, spot⟩ := x
    refine ⟨zs.take len, ⟨_, cap, by rw [hlt], by rw [hlt]; exact hl, hm, fun x hx' => ?_, fun hne => ?_⟩, fun b1 off1 n1 c1 e1 h0 => ?_⟩
    · have := bounds_i64 (hwz x (List.mem_of_mem_take hx'))
      unfold I64
      omega
    · have hlen : 0 < len := by
        rcases Nat.eq_zero_or_pos len with rfl | h
        · simp at hne
        · exact h
      have hspot : spot = none := by
        have := World.cell?_spot (hcell 0 (by omega))
        simpa [Addr.add] using this
      subst hspot
      refine ⟨b, off, rfl, fun j x hj => ?_⟩
      have hj' := (List.getElem?_eq_some_iff.mp hj).1
      rw [hlt] at hj'
      have h6 := hcell j (by omega)
      rw [WideShapes.add_plain] at h6
      rw [h6]
      rw [List.getElem?_take_of_lt hj'] at hj
      simp [List.getD_eq_getElem?_getD, hj]
    · simp only [Value.slice.injEq, Option.some.injEq, Addr.mk.injEq] at e1
      obtain ⟨⟨rfl, rfl, rfl⟩, rfl, rfl⟩ := e1
      have h6 := hcell 0 (by omega)
      rw [WideShapes.add_plain] at h6
      exact cell_lt h6
set_option maxRecDepth 100000 in
theorem open_picks {H : Type} {enc : TypeId × Value → H} {W : World} {fuel : Nat} {v : Value} {x : DataW H × List MemPlace} {st : List Sp} (h : DataW.trod enc Try.prog W 0 (fun _ => true) true fuel 22 [v] = some x) (hs : ScrAt W v st) : ∀ s ∈ st, ∃ ps, PicksAt W s.vp ps ∧ PicksOff W.heap.size s.vp := by
  intro s hsm
  obtain ⟨a0, cap0, rfl, -, -, -, -, hcs0⟩ := hs
  obtain ⟨b, off, rfl, hc0⟩ := hcs0 (List.ne_nil_of_mem hsm)
  obtain ⟨i, hi, e⟩ := List.getElem_of_mem hsm
  have e6 := (hc0 i hi).c6
  have es : st.getD i Sp.none = s := by rw [List.getD_eq_getElem?_getD, List.getElem?_eq_getElem hi, e]; rfl
  rw [es] at e6
  rcases open_slice Try.underlying22 h with ⟨hcs, hx⟩ | ⟨a, len, cap, m, n, D, Pl, hcs, hb, hl, hm, hmm, hx, hel⟩
  · simp at hcs
  · simp at hcs
    obtain ⟨rfl, rfl, rfl⟩ := hcs
    obtain ⟨cs', h1, h2⟩ := hel i (by simp only [if_true] at hmm; omega)
    rw [cells_step] at h1
    obtain ⟨_, hlen0, hcell⟩ := World.cells?_some h1
    obtain ⟨xs, m2, _, hx2, hl2, hlen2, hf⟩ := DataW.trod_struct Try.underlying31 h2
    rw [cells_step] at hl2
    have hlen2 : xs.length = 7 := hlen2
    match cs', hl2 with
    | [v0, v1, v2, v3, v4, v5, v6], _ =>
      match xs, hlen2 with
      | [y0, y1, y2, y3, y4, y5, y6], _ =>
        have k6 : DataW.trod enc Try.prog W 0 (fun _ => true) true m2 29 [v6] = some y6 := by simpa [cells_I] using hf 6 _ rfl
        have h6 := hcell 6 (by omega)
        rw [WideShapes.add_plain, WideShapes.add_plain] at h6
        rw [e6] at h6
        have : s.vp = v6 := by simpa using h6
        rw [this]
        exact open_pk k6
end Go.Proofs.Ytgpmhflndcppeaa
