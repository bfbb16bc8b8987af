import Derived.Test.YtelhjdplghpnbaaSyK
import Derived.WalkMore
/-! The program's serve, walked. -/
namespace Go.Proofs.Ytelhjdplghpnbaa
open Go.RowKit Plain
set_option linter.unusedVariables false
set_option linter.unusedSimpArgs false

theorem OkT.freshen {t : Tu} (h : OkT t) {c : Int} {cs : List Int} (hc : (t.q t.at').costs = c :: cs) : OkT (t.put ⟨(t.q t.at').id, (t.q t.at').quantum, t.d, c :: cs⟩) := by
  have hd := h.d_ok
  have hs := Ring.put (t := t) ⟨(t.q t.at').id, (t.q t.at').quantum, t.d, c :: cs⟩ h.lt rfl rfl
  have hq := t.put_q ⟨(t.q t.at').id, (t.q t.at').quantum, t.d, c :: cs⟩ h.lt
  have hlen := t.put_len ⟨(t.q t.at').id, (t.q t.at').quantum, t.d, c :: cs⟩
  generalize hT : t.put ⟨(t.q t.at').id, (t.q t.at').quantum, t.d, c :: cs⟩ = T at *
  have hTa : T.at' = t.at' := by rw [← hT]; rfl
  have hTf : T.fresh = true := by rw [← hT]; rfl
  refine ⟨by rw [hlen]; exact h.few, by rw [hTa, hlen]; exact h.lt, fun k hk => ?_, fun k hk => ?_, fun k hk => ?_, fun k hk => ?_, fun k hk => ?_⟩
  · rw [(hs k).1, (hs (k - 1)).1]; exact h.ids k (by rw [← hlen]; exact hk)
  · rw [(hs k).2.1]; exact h.quantum k (by rw [← hlen]; exact hk)
  · rw [hTa, hTf]
    by_cases e : k = t.at'
    · rw [e, hq]
      show 0 ≤ t.d ∧ t.d ≤ _
      rw [if_pos ⟨rfl, rfl⟩]
      omega
    · rw [(hs k).2.2 e]
      have := h.def_ k (by rw [← hlen]; exact hk)
      rw [if_neg (fun x => e x.2)] at this
      exact ⟨this.1, by split <;> omega⟩
  · by_cases e : k = t.at'
    · rw [e, hq]; exact fun x => by cases x
    · rw [(hs k).2.2 e]; exact h.idle k (by rw [← hlen]; exact hk)
  · by_cases e : k = t.at'
    · rw [e, hq]; intro z hz; exact h.cost _ h.lt z (by rw [hc]; exact hz)
    · rw [(hs k).2.2 e]; exact h.cost k (by rw [← hlen]; exact hk)
theorem micro_nil {t : Tu} (hc : (t.q t.at').costs = []) : micro t = .inl t.on := by unfold micro; rw [hc]
theorem micro_less {t : Tu} {c : Int} {cs : List Int} (hc : (t.q t.at').costs = c :: cs) (h : t.d < c) : micro t = .inl (t.put ⟨(t.q t.at').id, (t.q t.at').quantum, t.d, c :: cs⟩).on := by unfold micro; rw [hc]; simp only; rw [if_pos h]
theorem micro_serve {t : Tu} (hl : t.at' < t.qs.length) {c : Int} {cs : List Int} (hc : (t.q t.at').costs = c :: cs) (h : ¬ t.d < c) : micro t = .inr (spent (t.put ⟨(t.q t.at').id, (t.q t.at').quantum, t.d, c :: cs⟩) c cs, (t.q t.at').id, c) := by
  have hq := t.put_q ⟨(t.q t.at').id, (t.q t.at').quantum, t.d, c :: cs⟩ hl
  unfold micro spent
  rw [hc]
  simp only
  rw [if_neg h, Tu.put_at, hq, Tu.put_put, Tu.put_put]
theorem spent_q {v : Tu} (hl : v.at' < v.qs.length) (c : Int) (cs : List Int) : ((spent v c cs).q v.at').id = (v.q v.at').id ∧ (spent v c cs).qs.length = v.qs.length := by
  unfold spent
  split
  · rw [Tu.on_q, v.put_q _ hl, Tu.on_len, Tu.put_len]; exact ⟨rfl, rfl⟩
  · rw [v.put_q _ hl, Tu.put_len]; exact ⟨rfl, rfl⟩
theorem put_same {t : Tu} (hl : t.at' < t.qs.length) (hf : t.fresh = true) : t.put (t.q t.at') = t := by
  refine tu_ext (t.put_len _) (fun j hj => ?_) rfl hf.symm
  by_cases e : j = t.at'
  · rw [e, t.put_q _ hl]
  · rw [t.put_o _ e]
/-- Ahead of a look. -/
structure SvK (W w : World) (base B g : Nat) (rs : List (Option Nat)) (t0 t : Tu) (vs : List Qv) (n a0 x p M gk : Nat) : Prop where
  m : SvM W w base B g t vs rs
  ok : OkT t
  to : RunTo t0 t
  len : t.qs.length = n
  wait : (t.q x).costs ≠ []
  hx : x < n
  lk : Lk t n a0 p ∨ n ≤ p
  ha : a0 < n
  most : p + mu t x ≤ M
  mu : mu t x ≤ gk
theorem SvK.later {W w w' : World} {base B g : Nat} {rs : List (Option Nat)} {t0 t : Tu} {vs : List Qv} {n a0 x p M gk : Nat} (h : SvK W w base B g rs t0 t vs n a0 x p M gk) (k : Below w.heap.size w w') : SvK W w' base B g rs t0 t vs n a0 x p M gk := ⟨h.m.later k, h.ok, h.to, h.len, h.wait, h.hx, h.lk, h.ha, h.most, h.mu⟩
/-- What the look that serves nobody leaves. -/
def SvN (W : World) (base B g : Nat) (rs : List (Option Nat)) (t0 : Tu) (n a0 x p M gk : Nat) (w : World) : Prop := ∃ (t : Tu) (vs : List Qv), SvI W w base B g rs t0 t vs n a0 x (p + 1) M ∧ Go.Proofs.Ytelhjdplghpnbaa.mu t x < gk
theorem SvK.pass {W w w' : World} {base B g : Nat} {rs : List (Option Nat)} {t0 t t' : Tu} {vs vs' : List Qv} {n a0 x p M gk : Nat} (h : SvK W w base B g rs t0 t vs n a0 x p M gk) (hm : micro t = .inl t') (hs : SvM W w' base B g t' vs' rs) : SvN W base B g rs t0 n a0 x p M gk w' := by
  obtain ⟨h1, h2⟩ := SvI.look h.ok h.to h.len h.wait h.hx h.lk h.ha h.most hm hs
  have := h.mu
  exact ⟨t', vs', h1, by omega⟩
/-- The queue whose turn it is does not wait. -/
theorem SvK.idle {W w : World} {base B g : Nat} {rs : List (Option Nat)} {t0 t : Tu} {vs : List Qv} {n a0 x p M gk : Nat} (h : SvK W w base B g rs t0 t vs n a0 x p M gk) (hc : (t.q t.at').costs = []) : Calls Try.prog 44 #[.pointer (some ⟨B, 0, none⟩), .int .i64 ((t.at' : Int) + 1)] w fun e w' => (∃ y, e = .returned y) ∧ SvN W base B g rs t0 n a0 x p M gk w' := by
  have hl := h.ok.lt
  have hf := h.ok.few
  have hg := qgiveTurnOf h.m.box (t.at' + 1) (by omega)
  rw [show ((t.at' + 1 : Nat) : Int) = (t.at' : Int) + 1 by omega] at hg
  refine hg.mono ?_
  rintro e w' ⟨hx, hb, hgr⟩
  refine ⟨hx, ?_⟩
  have h5 := h.m.turn _ _ hb hgr
  rw [next_give _ _ hl] at h5
  exact h.pass (micro_nil hc) h5
/-- Its quantum has been added, and its first cost is above what it may spend. -/
theorem SvK.dear {W w w1 : World} {base B g : Nat} {rs : List (Option Nat)} {t0 t : Tu} {vs vs' : List Qv} {n a0 x p M gk : Nat} (h : SvK W w base B g rs t0 t vs n a0 x p M gk) {c : Int} {cs : List Int} (hc : (t.q t.at').costs = c :: cs) (hlt : t.d < c) (hs : SvM W w1 base B g (t.put ⟨(t.q t.at').id, (t.q t.at').quantum, t.d, c :: cs⟩) vs' rs) : Calls Try.prog 44 #[.pointer (some ⟨B, 0, none⟩), .int .i64 ((t.at' : Int) + 1)] w1 fun e w' => (∃ y, e = .returned y) ∧ SvN W base B g rs t0 n a0 x p M gk w' := by
  have hl := h.ok.lt
  have hf := h.ok.few
  have hg := qgiveTurnOf hs.box (t.at' + 1) (by omega)
  rw [show ((t.at' + 1 : Nat) : Int) = (t.at' : Int) + 1 by omega] at hg
  refine hg.mono ?_
  rintro e w' ⟨hx, hb, hgr⟩
  refine ⟨hx, ?_⟩
  have h5 := hs.turn _ _ hb hgr
  rw [next_give _ _ (by rw [Tu.put_len]; exact hl)] at h5
  exact h.pass (micro_less hc hlt) h5
/-- What serve answers. -/
def SvE (W : World) (base B g : Nat) (rs : List (Option Nat)) (t0 : Tu) (id c : Int) (w' : World) : Prop := ∃ u vs', SvM W w' base B g u vs' rs ∧ OkT u ∧ ∃ k, run k t0 = some (u, id, c)
theorem SvK.served {W w w1 : World} {base B g : Nat} {rs : List (Option Nat)} {t0 t : Tu} {vs vs' : List Qv} {n a0 x p M gk : Nat} (h : SvK W w base B g rs t0 t vs n a0 x p M gk) {c : Int} {cs : List Int} (hc : (t.q t.at').costs = c :: cs) (hlt : ¬ t.d < c) (hs : SvM W w1 base B g (t.put ⟨(t.q t.at').id, (t.q t.at').quantum, t.d, c :: cs⟩) vs' rs) : ∀ u, Below w1.heap.size w1 u → Calls Try.prog 49 #[.pointer (some ⟨B, 0, none⟩), .pointer (some ⟨g, t.at' * 4, none⟩)] u fun e w' => e = .returned (.int .i64 c) ∧ (∀ m, SvE W base B g rs t0 (t.q t.at').id c (w'.drewN m)) ∧ w'.cell? ⟨g, t.at' * 4, none⟩ = some (.int .i64 (t.q t.at').id) := by
  intro u hu
  have hl := h.ok.lt
  have hq := t.put_q ⟨(t.q t.at').id, (t.q t.at').quantum, t.d, c :: cs⟩ hl
  have hok := h.ok.freshen hc
  have hm := micro_serve hl hc hlt
  have hlen := t.put_len ⟨(t.q t.at').id, (t.q t.at').quantum, t.d, c :: cs⟩
  have hat := t.put_at ⟨(t.q t.at').id, (t.q t.at').quantum, t.d, c :: cs⟩
  have hfr : (t.put ⟨(t.q t.at').id, (t.q t.at').quantum, t.d, c :: cs⟩).fresh = true := rfl
  obtain ⟨v, hv⟩ : ∃ v, t.put ⟨(t.q t.at').id, (t.q t.at').quantum, t.d, c :: cs⟩ = v := ⟨_, rfl⟩
  rw [hv] at hs hq hok hm hlen hat hfr
  rw [← hat] at hq
  have hc2 := qspendOf (hs.later hu) hok hfr (c := c) (cs := cs) (by rw [hq]) (by rw [hq]; show c ≤ t.d; omega)
  rw [hat] at hc2
  refine hc2.mono ?_
  rintro e w' ⟨rfl, vs2, h2⟩
  have hsq := spent_q hok.lt c cs
  rw [hq] at hsq
  obtain ⟨ca, cc, -, k0, -⟩ := h2.at (j := v.at') (by rw [hsq.2]; exact hok.lt)
  rw [hsq.1, hat] at k0
  refine ⟨rfl, fun m => ⟨_, vs2, h2.later (below_drawn w' m), (h.ok.micro).2 _ _ _ hm, ?_⟩, k0⟩
  exact h.to.ends hm
set_option maxHeartbeats 16000000 in
set_option maxRecDepth 100000 in
theorem qserveOf {W w : World} {base B g : Nat} {t0 : Tu} {vs0 : List Qv} {rs : List (Option Nat)} (h : SvM W w base B g t0 vs0 rs) (hk : OkT t0) {x : Nat} (hx : x < t0.qs.length) (hw : (t0.q x).costs ≠ []) :
    Calls Try.prog 32 #[.pointer (some ⟨B, 0, none⟩)] w fun e w' => ∃ id c, e = .returned (.tuple #[.int .i64 id, .int .i64 c]) ∧ SvE W base B g rs t0 id c w' := by
  have hfew := hk.few
  obtain ⟨n, hn⟩ : ∃ n, t0.qs.length = n := ⟨_, rfl⟩
  obtain ⟨M, hM⟩ : ∃ M, mu t0 x = M := ⟨_, rfl⟩
  have hMb : M ≤ 1000000000 := by
    rw [← hM]
    unfold mu
    have h1 := (hk.def_ x hx).1
    have h2 : (2097152 - (t0.q x).deficit).toNat ≤ 2097152 := by omega
    have h3 := Nat.mul_le_mul h2 hfew
    have h4 := far_lt t0.qs.length x t0.at' hx
    have h5 : (if t0.fresh = true then t0.qs.length else 0) ≤ 32 := by split <;> omega
    omega
  rw [hn] at hx hfew
  have HI0 : Hid (SvI W w base B g rs t0 t0 vs0 n t0.at' x 0 M) := ⟨h, hk, RunTo.refl _, hn, hw, hx, Lk.start (by have := hk.lt; omega), by have := hk.lt; omega, by omega⟩
  obtain ⟨a0, ha0⟩ : ∃ a0, t0.at' = a0 := ⟨_, rfl⟩
  rw [ha0] at HI0
  clear hk h hw ha0 hn
  go_enter Try.func32, Try.ntmps32
  go_wp2
  go_step3
  go_wp2
  go_step3
  go_wp2
  go_loopg [4] M (fun gk s4 wx => ∃ (p : Nat) (t : Tu) (vs : List Qv), s4 = .int .i64 p ∧ mu t x = gk ∧ Hid (SvI W wx base B g rs t0 t vs n a0 x p M))
  case atStart => exact ⟨0, t0, vs0, rfl, hM, HI0.out⟩
  case round =>
    obtain ⟨p, t, vs, rfl, hgk, HI⟩ := hrel
    clear HI0
    have hpb : p ≤ 1000000000 := by have := HI.out.most; omega
    have hbox := HI.out.m.box
    rw [HI.out.len] at hbox
    obtain ⟨b0, b1, b2, bf⟩ := hbox
    clear bf
    by_cases hpn : p = n
    · subst hpn
      obtain ⟨hL, hfr⟩ := HI.out.lk.lack HI.out.len (by omega)
      have HSK := Hid.mkT (qskipRoundsOf HI.out.m HI.out.ok hL hfr p HI.out.len)
      clear hL hfr
      go_wp2_with fail
      refine HSK.out.mono ?_
      rintro e u1 ⟨⟨y, rfl⟩, vs1, h1⟩
      obtain ⟨k1, k2, k3, k4, k5⟩ := HI.out.skip h1
      obtain ⟨t1, ht1⟩ : ∃ t1, skipT (idleL t.qs 1048576).toNat t = t1 := ⟨_, rfl⟩
      rw [ht1] at h1 k1 k2 k3 k4 k5
      have HK : Hid (SvK W u1 base B g rs t0 t1 vs1 p a0 x p M gk) := ⟨h1, k1, k2, k3, k4, HI.out.hx, .inr (Nat.le_refl _), HI.out.ha, by have := HI.out.most; omega, by omega⟩
      clear HI HSK h1 k1 k2 k3 k4 k5 ht1 b0 b1 b2
      clear hgk
      have hl := HK.out.ok.lt
      have HLT := Hid.mkT hl
      have hlen := HK.out.len
      rw [hlen] at hl
      have hbox := HK.out.m.box
      rw [hlen] at hbox
      obtain ⟨b0, b1, b2, bf⟩ := hbox
      clear bf
      obtain ⟨J, hJ⟩ : ∃ J, t1.at' = J := ⟨_, rfl⟩
      have HJ := Hid.mkT hJ
      obtain ⟨fr, hfr⟩ : ∃ fr, t1.fresh = fr := ⟨_, rfl⟩
      have HFR := Hid.mkT hfr
      rw [hJ] at b1 hl
      rw [hfr] at b2
      have HBX : Hid (∀ u, Below u1.heap.size u1 u → u.cell? ⟨B, 0, none⟩ = some (.slice (some ⟨g, 0, none⟩) p p) ∧ u.cell? ⟨B, 1, none⟩ = some (.int .i64 J) ∧ u.cell? ⟨B, 2, none⟩ = some (.bool fr) ∧ u.frozen? ⟨B, 2, none⟩ = false) := fun u hu => by
        have hb := (HK.out.m.later hu).box
        rw [hlen, hJ, hfr] at hb
        exact ⟨hb.b0, hb.b1, hb.b2, hb.fz 2 (by omega)⟩
      clear hJ hfr hlen
      have hJz : (J : Int) < (p : Int) := by omega
      go_wp2_with fail
      go_quiet (fail)
      have HK2 := Hid.mkT (HK.out.later (below_drawn u1 nq))
      have HBX2 : Hid (∀ u, Below (u1.drewN nq).heap.size (u1.drewN nq) u → u.cell? ⟨B, 0, none⟩ = some (.slice (some ⟨g, 0, none⟩) p p) ∧ u.cell? ⟨B, 1, none⟩ = some (.int .i64 J) ∧ u.cell? ⟨B, 2, none⟩ = some (.bool fr) ∧ u.frozen? ⟨B, 2, none⟩ = false) := fun u hu => HBX.out u (below_of (below_drawn u1 nq) hu)
      clear HK HBX b0 b1 b2
      generalize u1.drewN nq = u2 at *
      obtain ⟨ca, cc, -, c0, c1, c2, c3, f2, -, -⟩ := HK2.out.m.at HLT.out
      rw [HJ.out] at c0 c1 c2 c3 f2
      obtain ⟨xi, hxi⟩ : ∃ xi, (t1.q J).id = xi := ⟨_, rfl⟩
      obtain ⟨xq, hxq⟩ : ∃ xq, (t1.q J).quantum = xq := ⟨_, rfl⟩
      obtain ⟨xd, hxd⟩ : ∃ xd, (t1.q J).deficit = xd := ⟨_, rfl⟩
      obtain ⟨cs0, hcs0⟩ : ∃ cs0, (t1.q J).costs = cs0 := ⟨_, rfl⟩
      rw [hxi] at c0
      rw [hxq] at c1
      rw [hxd] at c2
      rw [hcs0] at c3
      have HXI := Hid.mkT hxi
      have HXQ := Hid.mkT hxq
      have HXD := Hid.mkT hxd
      have HCS := Hid.mkT hcs0
      clear hxi hxq hxd hcs0
      obtain ⟨N, hN⟩ : ∃ N, cs0.length = N := ⟨_, rfl⟩
      rw [hN] at c3
      go_wp2_with fail
      refine (qwaitsOf xi xq xd ca N cc _).mono ?_
      rintro e u3 ⟨rfl, hb3⟩
      have HK3 := Hid.mkT (HK2.out.later hb3)
      have HBX3 : Hid (∀ u, Below u3.heap.size u3 u → u.cell? ⟨B, 0, none⟩ = some (.slice (some ⟨g, 0, none⟩) p p) ∧ u.cell? ⟨B, 1, none⟩ = some (.int .i64 J) ∧ u.cell? ⟨B, 2, none⟩ = some (.bool fr) ∧ u.frozen? ⟨B, 2, none⟩ = false) := fun u hu => HBX2.out u (below_of hb3 hu)
      clear HK2 HBX2 hb3 c0 c1 c2 c3 f2
      obtain ⟨b0, b1, b2, bf2⟩ := HBX3.out u3 (Below.refl _ _)
      cases cs0 with
      | nil =>
        simp only [List.length_nil] at hN
        subst hN
        have HGV := Hid.mkT (HK3.out.idle (by rw [HJ.out]; exact HCS.out))
        rw [HJ.out] at HGV
        clear HK3 HBX3
        go_wp2_with fail
        refine HGV.out.mono ?_
        rintro e u4 ⟨⟨y, rfl⟩, t2, vs2, hi2, hmu2⟩
        have HI2 := Hid.mkT hi2
        clear hi2 HGV
        go_wp2
        go_roundg (mu t2 x)
        case measure => exact hmu2
        case rel => exact ⟨p + 1, t2, vs2, by go_num, rfl, HI2.out⟩
      | cons c cs =>
        have hd0 : decide (0 < N) = true := by rw [← hN]; simp
        obtain ⟨ca, cc, -, c0, c1, c2, c3, f2, -, -⟩ := HK3.out.m.at HLT.out
        rw [HJ.out] at c0 c1 c2 c3 f2
        rw [HXI.out] at c0
        rw [HXQ.out] at c1
        rw [HXD.out] at c2
        rw [HCS.out, hN] at c3
        have HCJ : Hid ((t1.q t1.at').costs = c :: cs) := by unfold Hid; rw [HJ.out]; exact HCS.out
        have hqb := HK3.out.ok.quantum _ HLT.out
        have hdb := HK3.out.ok.def_ _ HLT.out
        have hcb := HK3.out.ok.cost _ HLT.out c (by rw [HCJ.out]; simp)
        rw [HJ.out] at hqb hdb
        rw [HXQ.out] at hqb
        rw [HXD.out] at hdb
        have hdb2 : 0 ≤ xd ∧ xd ≤ 1114111 := ⟨hdb.1, by have := hdb.2; split at this <;> omega⟩
        clear hdb
        have HDD : Hid (t1.d = xd + (if fr = true then 0 else xq)) := by
          unfold Hid Tu.d
          rw [HJ.out, HXD.out, HXQ.out, HFR.out]
        have HPQ : Hid (t1.put ⟨(t1.q t1.at').id, (t1.q t1.at').quantum, t1.d, c :: cs⟩ = ⟨t1.qs.set J ⟨xi, xq, t1.d, c :: cs⟩, J, true⟩) := by
          unfold Hid Tu.put
          rw [HJ.out, HXI.out, HXQ.out]
        cases fr with
        | true =>
          simp only [if_true, Int.add_zero] at HDD
          have ht5 : SvM W u3 base B g (t1.put ⟨(t1.q t1.at').id, (t1.q t1.at').quantum, t1.d, c :: cs⟩) vs1 rs := by
            have e : (⟨(t1.q t1.at').id, (t1.q t1.at').quantum, t1.d, c :: cs⟩ : Qu) = t1.q t1.at' := by
              rw [HDD.out, ← HCJ.out, ← HXD.out, ← HJ.out]
            rw [e, put_same HLT.out HFR.out]
            exact HK3.out.m
          obtain ⟨vs5, hvs5⟩ : ∃ vs5, vs1 = vs5 := ⟨_, rfl⟩
          obtain ⟨u5, hu5⟩ : ∃ u5, u3 = u5 := ⟨_, rfl⟩
          have hu5' := hu5
          subst hu5
          clear hu5'
          rw [hvs5] at ht5
          clear hvs5 c0 c1 c2 c3 f2
          have HT5 := Hid.mkT ht5
          clear ht5
          have hat5 : (t1.put ⟨(t1.q t1.at').id, (t1.q t1.at').quantum, t1.d, c :: cs⟩).at' = J := HJ.out
          have hl5 : (t1.put ⟨(t1.q t1.at').id, (t1.q t1.at').quantum, t1.d, c :: cs⟩).at' < (t1.put ⟨(t1.q t1.at').id, (t1.q t1.at').quantum, t1.d, c :: cs⟩).qs.length := by rw [Tu.put_len]; exact HLT.out
          have hq5 : (t1.put ⟨(t1.q t1.at').id, (t1.q t1.at').quantum, t1.d, c :: cs⟩).q J = ⟨xi, xq, t1.d, c :: cs⟩ := by rw [HPQ.out, Tu.set_q (by rw [← HJ.out]; exact HLT.out), if_pos rfl]
          have HV5 : Hid (∀ m, SvM W (u3.drewN m) base B g (t1.put ⟨(t1.q t1.at').id, (t1.q t1.at').quantum, t1.d, c :: cs⟩) vs5 rs) := fun m => HT5.out.later (below_drawn u3 m)
          obtain ⟨b, off, cc5, k3, -, -, kc, -⟩ := HT5.out.tail (j := J) (by rw [hat5] at hl5; exact hl5) (c := c) (cs := cs) (by rw [hq5])
          obtain ⟨ca5, cc6, -, k0, -, k2, -, -, -, -⟩ := HT5.out.at (j := J) (by rw [hat5] at hl5; exact hl5)
          rw [hq5] at k0 k2
          simp only at k0 k2
          have HBX5 : Hid (∀ m, (u3.drewN m).cell? ⟨B, 1, none⟩ = some (.int .i64 J)) := fun m => by
            have := (HV5.out m).box.b1
            rw [hat5] at this
            exact this
          have HK0 : Hid (∀ m, (u3.drewN m).cell? ⟨g, J * 4, none⟩ = some (.int .i64 xi)) := fun m => k0
          obtain ⟨D, hD⟩ : ∃ D, t1.d = D := ⟨_, rfl⟩
          have HD := Hid.mkT hD
          rw [hD] at k2
          have hDb : 0 ≤ D ∧ D ≤ 2000000 := by have := HDD.out; rw [hD] at this; omega
          clear hD hq5 hat5 hl5
          go_wp2_with fail
          by_cases hlt : D < c
          · have hltd : decide (D < c) = true := by simpa using hlt
            have HGV := Hid.mkT (fun m => HK3.out.dear HCJ.out (by rw [HD.out]; exact hlt) (HV5.out m))
            rw [HJ.out] at HGV
            go_quiet (fail)
            have HGV2 := Hid.mkT (HGV.out nq)
            have k1 := HBX5.out nq
            clear HGV HBX5 HV5 HK0 k0 k2 k3 kc HT5
            generalize u3.drewN nq = u6 at *
            go_wp2_with fail
            refine HGV2.out.mono ?_
            rintro e u7 ⟨⟨y, rfl⟩, t2, vs2, hi2, hmu2⟩
            have HI2 := Hid.mkT hi2
            clear hi2 HGV2
            go_wp2
            go_roundg (mu t2 x)
            case measure => exact hmu2
            case rel => exact ⟨p + 1, t2, vs2, by go_num, rfl, HI2.out⟩
          · have hltd : decide (D < c) = false := by simpa using hlt
            have HSP := Hid.mkT (fun m => HK3.out.served HCJ.out (by rw [HD.out]; exact hlt) (HV5.out m))
            rw [HJ.out, HXI.out] at HSP
            go_quiet (fail)
            have HSP2 := Hid.mkT (HSP.out nq)
            have k1 := HK0.out nq
            clear HSP HBX5 HV5 HK0 k0 k2 k3 kc HT5 HK3
            generalize u3.drewN nq = u6 at *
            go_wp2_with fail
            go_region_with (first
              | (go_at_call 49
                 refine (HSP2.out _ (by first | exact Below.refl _ _ | exact Below.drew (Below.refl _ _))).mono ?_
                 rintro e u7 ⟨rfl, hend, k7⟩
                 have HEND := Hid.mkT hend
                 clear hend HSP2))
            all_goals
              go_wp2
              try rw [Exit.noGoto_ret]
              go_ret2
              exact ⟨xi, c, rfl, HEND.out 0⟩
        | false =>
          simp only [Bool.false_eq_true, if_false] at HDD
          have HPUT : Hid (∃ vs5, SvM W ((u3.setCell ⟨g, J * 4 + 2, none⟩ (.int .i64 (xd + xq))).setCell ⟨B, 2, none⟩ (.bool true)) base B g (t1.put ⟨(t1.q t1.at').id, (t1.q t1.at').quantum, t1.d, c :: cs⟩) vs5 rs) := by
            obtain ⟨vs4, h4⟩ := HK3.out.m.putD HLT.out (xd + xq)
            rw [HCJ.out, HJ.out, HXI.out, HXQ.out] at h4
            have h5 := h4.turn J true (h4.box.setF true) (grow_setT _ B 2 _)
            rw [HPQ.out, HDD.out]
            exact ⟨vs4, h5⟩
          obtain ⟨vs5, hput⟩ := HPUT.out
          have ht5_ : SvM W (((u3.setCell ⟨g, J * 4 + 2, none⟩ (.int .i64 (xd + xq))).setCell ⟨B, 2, none⟩ (.bool true)).drewN 1) base B g (t1.put ⟨(t1.q t1.at').id, (t1.q t1.at').quantum, t1.d, c :: cs⟩) vs5 rs := hput.later (below_drawn _ 1)
          have HT5_ := Hid.mkT ht5_
          have hBg := HK3.out.m.gB.1
          have b2s : ((u3.setCell ⟨g, J * 4 + 2, none⟩ (.int .i64 (xd + xq))).drewN 1).cell? ⟨B, 2, none⟩ = some (.bool false) := by
            show (u3.setCell ⟨g, J * 4 + 2, none⟩ (.int .i64 (xd + xq))).cell? ⟨B, 2, none⟩ = _
            rw [World.cell?_setCell_other _ _ _ _ (by simp only [ne_eq, Addr.mk.injEq]; omega)]; exact b2
          have bfs : ((u3.setCell ⟨g, J * 4 + 2, none⟩ (.int .i64 (xd + xq))).drewN 1).frozen? ⟨B, 2, none⟩ = false := by
            show (u3.setCell ⟨g, J * 4 + 2, none⟩ (.int .i64 (xd + xq))).frozen? ⟨B, 2, none⟩ = _
            rw [World.frozen?_setCell]; exact bf2
          clear ht5_ hput HPUT
          go_wp2
          go_region
          obtain ⟨u4, hu4⟩ : ∃ u4, (u3.setCell ⟨g, J * 4 + 2, none⟩ (.int .i64 (xd + xq))).drewN 1 = u4 := ⟨_, rfl⟩
          have hu4' : (u3.setCell ⟨g, J * 4 + 2, none⟩ (.int .i64 (xd + xq))).drew = u4 := hu4
          rw [hu4] at b2s bfs
          first | rw [hu4'] | (show _; rw [hu4])
          obtain ⟨u5, hu5⟩ : ∃ u5, u4.setCell ⟨B, 2, none⟩ (.bool true) = u5 := ⟨_, rfl⟩
          have ht5 : SvM W u5 base B g (t1.put ⟨(t1.q t1.at').id, (t1.q t1.at').quantum, t1.d, c :: cs⟩) vs5 rs := by
            rw [← hu5, ← hu4]
            exact HT5_.out
          clear HT5_ hu4 hu4' c0 c1 c2 c3 f2 b0 b1 b2 bf2
          have HT5 := Hid.mkT ht5
          clear ht5
          have hat5 : (t1.put ⟨(t1.q t1.at').id, (t1.q t1.at').quantum, t1.d, c :: cs⟩).at' = J := HJ.out
          have hl5 : (t1.put ⟨(t1.q t1.at').id, (t1.q t1.at').quantum, t1.d, c :: cs⟩).at' < (t1.put ⟨(t1.q t1.at').id, (t1.q t1.at').quantum, t1.d, c :: cs⟩).qs.length := by rw [Tu.put_len]; exact HLT.out
          have hq5 : (t1.put ⟨(t1.q t1.at').id, (t1.q t1.at').quantum, t1.d, c :: cs⟩).q J = ⟨xi, xq, t1.d, c :: cs⟩ := by rw [HPQ.out, Tu.set_q (by rw [← HJ.out]; exact HLT.out), if_pos rfl]
          have HV5 : Hid (∀ m, SvM W (u5.drewN m) base B g (t1.put ⟨(t1.q t1.at').id, (t1.q t1.at').quantum, t1.d, c :: cs⟩) vs5 rs) := fun m => HT5.out.later (below_drawn u5 m)
          obtain ⟨b, off, cc5, k3, -, -, kc, -⟩ := HT5.out.tail (j := J) (by rw [hat5] at hl5; exact hl5) (c := c) (cs := cs) (by rw [hq5])
          obtain ⟨ca5, cc6, -, k0, -, k2, -, -, -, -⟩ := HT5.out.at (j := J) (by rw [hat5] at hl5; exact hl5)
          rw [hq5] at k0 k2
          simp only at k0 k2
          have HBX5 : Hid (∀ m, (u5.drewN m).cell? ⟨B, 1, none⟩ = some (.int .i64 J)) := fun m => by
            have := (HV5.out m).box.b1
            rw [hat5] at this
            exact this
          have HK0 : Hid (∀ m, (u5.drewN m).cell? ⟨g, J * 4, none⟩ = some (.int .i64 xi)) := fun m => k0
          obtain ⟨D, hD⟩ : ∃ D, t1.d = D := ⟨_, rfl⟩
          have HD := Hid.mkT hD
          rw [hD] at k2
          have hDb : 0 ≤ D ∧ D ≤ 2000000 := by have := HDD.out; rw [hD] at this; omega
          clear hD hq5 hat5 hl5
          go_wp2_with fail
          by_cases hlt : D < c
          · have hltd : decide (D < c) = true := by simpa using hlt
            have HGV := Hid.mkT (fun m => HK3.out.dear HCJ.out (by rw [HD.out]; exact hlt) (HV5.out m))
            rw [HJ.out] at HGV
            go_quiet (fail)
            have HGV2 := Hid.mkT (HGV.out nq)
            have k1 := HBX5.out nq
            clear HGV HBX5 HV5 HK0 k0 k2 k3 kc HT5
            generalize u5.drewN nq = u6 at *
            go_wp2_with fail
            refine HGV2.out.mono ?_
            rintro e u7 ⟨⟨y, rfl⟩, t2, vs2, hi2, hmu2⟩
            have HI2 := Hid.mkT hi2
            clear hi2 HGV2
            go_wp2
            go_roundg (mu t2 x)
            case measure => exact hmu2
            case rel => exact ⟨p + 1, t2, vs2, by go_num, rfl, HI2.out⟩
          · have hltd : decide (D < c) = false := by simpa using hlt
            have HSP := Hid.mkT (fun m => HK3.out.served HCJ.out (by rw [HD.out]; exact hlt) (HV5.out m))
            rw [HJ.out, HXI.out] at HSP
            go_quiet (fail)
            have HSP2 := Hid.mkT (HSP.out nq)
            have k1 := HK0.out nq
            clear HSP HBX5 HV5 HK0 k0 k2 k3 kc HT5 HK3
            generalize u5.drewN nq = u6 at *
            go_wp2_with fail
            go_region_with (first
              | (go_at_call 49
                 refine (HSP2.out _ (by first | exact Below.refl _ _ | exact Below.drew (Below.refl _ _))).mono ?_
                 rintro e u7 ⟨rfl, hend, k7⟩
                 have HEND := Hid.mkT hend
                 clear hend HSP2))
            all_goals
              go_wp2
              try rw [Exit.noGoto_ret]
              go_ret2
              exact ⟨xi, c, rfl, HEND.out 0⟩
    · have HK : Hid (SvK W wr base B g rs t0 t vs n a0 x p M gk) := ⟨HI.out.m, HI.out.ok, HI.out.to, HI.out.len, HI.out.wait, HI.out.hx, .inl HI.out.lk, HI.out.ha, HI.out.most, by omega⟩
      have hpz : ¬ (p : Int) = (n : Int) := by omega
      clear HI b0 b1 b2
      clear hgk
      have hl := HK.out.ok.lt
      have HLT := Hid.mkT hl
      have hlen := HK.out.len
      rw [hlen] at hl
      have hbox := HK.out.m.box
      rw [hlen] at hbox
      obtain ⟨b0, b1, b2, bf⟩ := hbox
      clear bf
      obtain ⟨J, hJ⟩ : ∃ J, t.at' = J := ⟨_, rfl⟩
      have HJ := Hid.mkT hJ
      obtain ⟨fr, hfr⟩ : ∃ fr, t.fresh = fr := ⟨_, rfl⟩
      have HFR := Hid.mkT hfr
      rw [hJ] at b1 hl
      rw [hfr] at b2
      have HBX : Hid (∀ u, Below wr.heap.size wr u → u.cell? ⟨B, 0, none⟩ = some (.slice (some ⟨g, 0, none⟩) n n) ∧ u.cell? ⟨B, 1, none⟩ = some (.int .i64 J) ∧ u.cell? ⟨B, 2, none⟩ = some (.bool fr) ∧ u.frozen? ⟨B, 2, none⟩ = false) := fun u hu => by
        have hb := (HK.out.m.later hu).box
        rw [hlen, hJ, hfr] at hb
        exact ⟨hb.b0, hb.b1, hb.b2, hb.fz 2 (by omega)⟩
      clear hJ hfr hlen
      have hJz : (J : Int) < (n : Int) := by omega
      go_wp2_with fail
      go_quiet (fail)
      have HK2 := Hid.mkT (HK.out.later (below_drawn wr nq))
      have HBX2 : Hid (∀ u, Below (wr.drewN nq).heap.size (wr.drewN nq) u → u.cell? ⟨B, 0, none⟩ = some (.slice (some ⟨g, 0, none⟩) n n) ∧ u.cell? ⟨B, 1, none⟩ = some (.int .i64 J) ∧ u.cell? ⟨B, 2, none⟩ = some (.bool fr) ∧ u.frozen? ⟨B, 2, none⟩ = false) := fun u hu => HBX.out u (below_of (below_drawn wr nq) hu)
      clear HK HBX b0 b1 b2
      generalize wr.drewN nq = u2 at *
      obtain ⟨ca, cc, -, c0, c1, c2, c3, f2, -, -⟩ := HK2.out.m.at HLT.out
      rw [HJ.out] at c0 c1 c2 c3 f2
      obtain ⟨xi, hxi⟩ : ∃ xi, (t.q J).id = xi := ⟨_, rfl⟩
      obtain ⟨xq, hxq⟩ : ∃ xq, (t.q J).quantum = xq := ⟨_, rfl⟩
      obtain ⟨xd, hxd⟩ : ∃ xd, (t.q J).deficit = xd := ⟨_, rfl⟩
      obtain ⟨cs0, hcs0⟩ : ∃ cs0, (t.q J).costs = cs0 := ⟨_, rfl⟩
      rw [hxi] at c0
      rw [hxq] at c1
      rw [hxd] at c2
      rw [hcs0] at c3
      have HXI := Hid.mkT hxi
      have HXQ := Hid.mkT hxq
      have HXD := Hid.mkT hxd
      have HCS := Hid.mkT hcs0
      clear hxi hxq hxd hcs0
      obtain ⟨N, hN⟩ : ∃ N, cs0.length = N := ⟨_, rfl⟩
      rw [hN] at c3
      go_wp2_with fail
      refine (qwaitsOf xi xq xd ca N cc _).mono ?_
      rintro e u3 ⟨rfl, hb3⟩
      have HK3 := Hid.mkT (HK2.out.later hb3)
      have HBX3 : Hid (∀ u, Below u3.heap.size u3 u → u.cell? ⟨B, 0, none⟩ = some (.slice (some ⟨g, 0, none⟩) n n) ∧ u.cell? ⟨B, 1, none⟩ = some (.int .i64 J) ∧ u.cell? ⟨B, 2, none⟩ = some (.bool fr) ∧ u.frozen? ⟨B, 2, none⟩ = false) := fun u hu => HBX2.out u (below_of hb3 hu)
      clear HK2 HBX2 hb3 c0 c1 c2 c3 f2
      obtain ⟨b0, b1, b2, bf2⟩ := HBX3.out u3 (Below.refl _ _)
      cases cs0 with
      | nil =>
        simp only [List.length_nil] at hN
        subst hN
        have HGV := Hid.mkT (HK3.out.idle (by rw [HJ.out]; exact HCS.out))
        rw [HJ.out] at HGV
        clear HK3 HBX3
        go_wp2_with fail
        refine HGV.out.mono ?_
        rintro e u4 ⟨⟨y, rfl⟩, t2, vs2, hi2, hmu2⟩
        have HI2 := Hid.mkT hi2
        clear hi2 HGV
        go_wp2
        go_roundg (mu t2 x)
        case measure => exact hmu2
        case rel => exact ⟨p + 1, t2, vs2, by go_num, rfl, HI2.out⟩
      | cons c cs =>
        have hd0 : decide (0 < N) = true := by rw [← hN]; simp
        obtain ⟨ca, cc, -, c0, c1, c2, c3, f2, -, -⟩ := HK3.out.m.at HLT.out
        rw [HJ.out] at c0 c1 c2 c3 f2
        rw [HXI.out] at c0
        rw [HXQ.out] at c1
        rw [HXD.out] at c2
        rw [HCS.out, hN] at c3
        have HCJ : Hid ((t.q t.at').costs = c :: cs) := by unfold Hid; rw [HJ.out]; exact HCS.out
        have hqb := HK3.out.ok.quantum _ HLT.out
        have hdb := HK3.out.ok.def_ _ HLT.out
        have hcb := HK3.out.ok.cost _ HLT.out c (by rw [HCJ.out]; simp)
        rw [HJ.out] at hqb hdb
        rw [HXQ.out] at hqb
        rw [HXD.out] at hdb
        have hdb2 : 0 ≤ xd ∧ xd ≤ 1114111 := ⟨hdb.1, by have := hdb.2; split at this <;> omega⟩
        clear hdb
        have HDD : Hid (t.d = xd + (if fr = true then 0 else xq)) := by
          unfold Hid Tu.d
          rw [HJ.out, HXD.out, HXQ.out, HFR.out]
        have HPQ : Hid (t.put ⟨(t.q t.at').id, (t.q t.at').quantum, t.d, c :: cs⟩ = ⟨t.qs.set J ⟨xi, xq, t.d, c :: cs⟩, J, true⟩) := by
          unfold Hid Tu.put
          rw [HJ.out, HXI.out, HXQ.out]
        cases fr with
        | true =>
          simp only [if_true, Int.add_zero] at HDD
          have ht5 : SvM W u3 base B g (t.put ⟨(t.q t.at').id, (t.q t.at').quantum, t.d, c :: cs⟩) vs rs := by
            have e : (⟨(t.q t.at').id, (t.q t.at').quantum, t.d, c :: cs⟩ : Qu) = t.q t.at' := by
              rw [HDD.out, ← HCJ.out, ← HXD.out, ← HJ.out]
            rw [e, put_same HLT.out HFR.out]
            exact HK3.out.m
          obtain ⟨vs5, hvs5⟩ : ∃ vs5, vs = vs5 := ⟨_, rfl⟩
          obtain ⟨u5, hu5⟩ : ∃ u5, u3 = u5 := ⟨_, rfl⟩
          have hu5' := hu5
          subst hu5
          clear hu5'
          rw [hvs5] at ht5
          clear hvs5 c0 c1 c2 c3 f2
          have HT5 := Hid.mkT ht5
          clear ht5
          have hat5 : (t.put ⟨(t.q t.at').id, (t.q t.at').quantum, t.d, c :: cs⟩).at' = J := HJ.out
          have hl5 : (t.put ⟨(t.q t.at').id, (t.q t.at').quantum, t.d, c :: cs⟩).at' < (t.put ⟨(t.q t.at').id, (t.q t.at').quantum, t.d, c :: cs⟩).qs.length := by rw [Tu.put_len]; exact HLT.out
          have hq5 : (t.put ⟨(t.q t.at').id, (t.q t.at').quantum, t.d, c :: cs⟩).q J = ⟨xi, xq, t.d, c :: cs⟩ := by rw [HPQ.out, Tu.set_q (by rw [← HJ.out]; exact HLT.out), if_pos rfl]
          have HV5 : Hid (∀ m, SvM W (u3.drewN m) base B g (t.put ⟨(t.q t.at').id, (t.q t.at').quantum, t.d, c :: cs⟩) vs5 rs) := fun m => HT5.out.later (below_drawn u3 m)
          obtain ⟨b, off, cc5, k3, -, -, kc, -⟩ := HT5.out.tail (j := J) (by rw [hat5] at hl5; exact hl5) (c := c) (cs := cs) (by rw [hq5])
          obtain ⟨ca5, cc6, -, k0, -, k2, -, -, -, -⟩ := HT5.out.at (j := J) (by rw [hat5] at hl5; exact hl5)
          rw [hq5] at k0 k2
          simp only at k0 k2
          have HBX5 : Hid (∀ m, (u3.drewN m).cell? ⟨B, 1, none⟩ = some (.int .i64 J)) := fun m => by
            have := (HV5.out m).box.b1
            rw [hat5] at this
            exact this
          have HK0 : Hid (∀ m, (u3.drewN m).cell? ⟨g, J * 4, none⟩ = some (.int .i64 xi)) := fun m => k0
          obtain ⟨D, hD⟩ : ∃ D, t.d = D := ⟨_, rfl⟩
          have HD := Hid.mkT hD
          rw [hD] at k2
          have hDb : 0 ≤ D ∧ D ≤ 2000000 := by have := HDD.out; rw [hD] at this; omega
          clear hD hq5 hat5 hl5
          go_wp2_with fail
          by_cases hlt : D < c
          · have hltd : decide (D < c) = true := by simpa using hlt
            have HGV := Hid.mkT (fun m => HK3.out.dear HCJ.out (by rw [HD.out]; exact hlt) (HV5.out m))
            rw [HJ.out] at HGV
            go_quiet (fail)
            have HGV2 := Hid.mkT (HGV.out nq)
            have k1 := HBX5.out nq
            clear HGV HBX5 HV5 HK0 k0 k2 k3 kc HT5
            generalize u3.drewN nq = u6 at *
            go_wp2_with fail
            refine HGV2.out.mono ?_
            rintro e u7 ⟨⟨y, rfl⟩, t2, vs2, hi2, hmu2⟩
            have HI2 := Hid.mkT hi2
            clear hi2 HGV2
            go_wp2
            go_roundg (mu t2 x)
            case measure => exact hmu2
            case rel => exact ⟨p + 1, t2, vs2, by go_num, rfl, HI2.out⟩
          · have hltd : decide (D < c) = false := by simpa using hlt
            have HSP := Hid.mkT (fun m => HK3.out.served HCJ.out (by rw [HD.out]; exact hlt) (HV5.out m))
            rw [HJ.out, HXI.out] at HSP
            go_quiet (fail)
            have HSP2 := Hid.mkT (HSP.out nq)
            have k1 := HK0.out nq
            clear HSP HBX5 HV5 HK0 k0 k2 k3 kc HT5 HK3
            generalize u3.drewN nq = u6 at *
            go_wp2_with fail
            go_region_with (first
              | (go_at_call 49
                 refine (HSP2.out _ (by first | exact Below.refl _ _ | exact Below.drew (Below.refl _ _))).mono ?_
                 rintro e u7 ⟨rfl, hend, k7⟩
                 have HEND := Hid.mkT hend
                 clear hend HSP2))
            all_goals
              go_wp2
              try rw [Exit.noGoto_ret]
              go_ret2
              exact ⟨xi, c, rfl, HEND.out 0⟩
        | false =>
          simp only [Bool.false_eq_true, if_false] at HDD
          have HPUT : Hid (∃ vs5, SvM W ((u3.setCell ⟨g, J * 4 + 2, none⟩ (.int .i64 (xd + xq))).setCell ⟨B, 2, none⟩ (.bool true)) base B g (t.put ⟨(t.q t.at').id, (t.q t.at').quantum, t.d, c :: cs⟩) vs5 rs) := by
            obtain ⟨vs4, h4⟩ := HK3.out.m.putD HLT.out (xd + xq)
            rw [HCJ.out, HJ.out, HXI.out, HXQ.out] at h4
            have h5 := h4.turn J true (h4.box.setF true) (grow_setT _ B 2 _)
            rw [HPQ.out, HDD.out]
            exact ⟨vs4, h5⟩
          obtain ⟨vs5, hput⟩ := HPUT.out
          have ht5_ : SvM W (((u3.setCell ⟨g, J * 4 + 2, none⟩ (.int .i64 (xd + xq))).setCell ⟨B, 2, none⟩ (.bool true)).drewN 1) base B g (t.put ⟨(t.q t.at').id, (t.q t.at').quantum, t.d, c :: cs⟩) vs5 rs := hput.later (below_drawn _ 1)
          have HT5_ := Hid.mkT ht5_
          have hBg := HK3.out.m.gB.1
          have b2s : ((u3.setCell ⟨g, J * 4 + 2, none⟩ (.int .i64 (xd + xq))).drewN 1).cell? ⟨B, 2, none⟩ = some (.bool false) := by
            show (u3.setCell ⟨g, J * 4 + 2, none⟩ (.int .i64 (xd + xq))).cell? ⟨B, 2, none⟩ = _
            rw [World.cell?_setCell_other _ _ _ _ (by simp only [ne_eq, Addr.mk.injEq]; omega)]; exact b2
          have bfs : ((u3.setCell ⟨g, J * 4 + 2, none⟩ (.int .i64 (xd + xq))).drewN 1).frozen? ⟨B, 2, none⟩ = false := by
            show (u3.setCell ⟨g, J * 4 + 2, none⟩ (.int .i64 (xd + xq))).frozen? ⟨B, 2, none⟩ = _
            rw [World.frozen?_setCell]; exact bf2
          clear ht5_ hput HPUT
          go_wp2
          go_region
          obtain ⟨u4, hu4⟩ : ∃ u4, (u3.setCell ⟨g, J * 4 + 2, none⟩ (.int .i64 (xd + xq))).drewN 1 = u4 := ⟨_, rfl⟩
          have hu4' : (u3.setCell ⟨g, J * 4 + 2, none⟩ (.int .i64 (xd + xq))).drew = u4 := hu4
          rw [hu4] at b2s bfs
          first | rw [hu4'] | (show _; rw [hu4])
          obtain ⟨u5, hu5⟩ : ∃ u5, u4.setCell ⟨B, 2, none⟩ (.bool true) = u5 := ⟨_, rfl⟩
          have ht5 : SvM W u5 base B g (t.put ⟨(t.q t.at').id, (t.q t.at').quantum, t.d, c :: cs⟩) vs5 rs := by
            rw [← hu5, ← hu4]
            exact HT5_.out
          clear HT5_ hu4 hu4' c0 c1 c2 c3 f2 b0 b1 b2 bf2
          have HT5 := Hid.mkT ht5
          clear ht5
          have hat5 : (t.put ⟨(t.q t.at').id, (t.q t.at').quantum, t.d, c :: cs⟩).at' = J := HJ.out
          have hl5 : (t.put ⟨(t.q t.at').id, (t.q t.at').quantum, t.d, c :: cs⟩).at' < (t.put ⟨(t.q t.at').id, (t.q t.at').quantum, t.d, c :: cs⟩).qs.length := by rw [Tu.put_len]; exact HLT.out
          have hq5 : (t.put ⟨(t.q t.at').id, (t.q t.at').quantum, t.d, c :: cs⟩).q J = ⟨xi, xq, t.d, c :: cs⟩ := by rw [HPQ.out, Tu.set_q (by rw [← HJ.out]; exact HLT.out), if_pos rfl]
          have HV5 : Hid (∀ m, SvM W (u5.drewN m) base B g (t.put ⟨(t.q t.at').id, (t.q t.at').quantum, t.d, c :: cs⟩) vs5 rs) := fun m => HT5.out.later (below_drawn u5 m)
          obtain ⟨b, off, cc5, k3, -, -, kc, -⟩ := HT5.out.tail (j := J) (by rw [hat5] at hl5; exact hl5) (c := c) (cs := cs) (by rw [hq5])
          obtain ⟨ca5, cc6, -, k0, -, k2, -, -, -, -⟩ := HT5.out.at (j := J) (by rw [hat5] at hl5; exact hl5)
          rw [hq5] at k0 k2
          simp only at k0 k2
          have HBX5 : Hid (∀ m, (u5.drewN m).cell? ⟨B, 1, none⟩ = some (.int .i64 J)) := fun m => by
            have := (HV5.out m).box.b1
            rw [hat5] at this
            exact this
          have HK0 : Hid (∀ m, (u5.drewN m).cell? ⟨g, J * 4, none⟩ = some (.int .i64 xi)) := fun m => k0
          obtain ⟨D, hD⟩ : ∃ D, t.d = D := ⟨_, rfl⟩
          have HD := Hid.mkT hD
          rw [hD] at k2
          have hDb : 0 ≤ D ∧ D ≤ 2000000 := by have := HDD.out; rw [hD] at this; omega
          clear hD hq5 hat5 hl5
          go_wp2_with fail
          by_cases hlt : D < c
          · have hltd : decide (D < c) = true := by simpa using hlt
            have HGV := Hid.mkT (fun m => HK3.out.dear HCJ.out (by rw [HD.out]; exact hlt) (HV5.out m))
            rw [HJ.out] at HGV
            go_quiet (fail)
            have HGV2 := Hid.mkT (HGV.out nq)
            have k1 := HBX5.out nq
            clear HGV HBX5 HV5 HK0 k0 k2 k3 kc HT5
            generalize u5.drewN nq = u6 at *
            go_wp2_with fail
            refine HGV2.out.mono ?_
            rintro e u7 ⟨⟨y, rfl⟩, t2, vs2, hi2, hmu2⟩
            have HI2 := Hid.mkT hi2
            clear hi2 HGV2
            go_wp2
            go_roundg (mu t2 x)
            case measure => exact hmu2
            case rel => exact ⟨p + 1, t2, vs2, by go_num, rfl, HI2.out⟩
          · have hltd : decide (D < c) = false := by simpa using hlt
            have HSP := Hid.mkT (fun m => HK3.out.served HCJ.out (by rw [HD.out]; exact hlt) (HV5.out m))
            rw [HJ.out, HXI.out] at HSP
            go_quiet (fail)
            have HSP2 := Hid.mkT (HSP.out nq)
            have k1 := HK0.out nq
            clear HSP HBX5 HV5 HK0 k0 k2 k3 kc HT5 HK3
            generalize u5.drewN nq = u6 at *
            go_wp2_with fail
            go_region_with (first
              | (go_at_call 49
                 refine (HSP2.out _ (by first | exact Below.refl _ _ | exact Below.drew (Below.refl _ _))).mono ?_
                 rintro e u7 ⟨rfl, hend, k7⟩
                 have HEND := Hid.mkT hend
                 clear hend HSP2))
            all_goals
              go_wp2
              try rw [Exit.noGoto_ret]
              go_ret2
              exact ⟨xi, c, rfl, HEND.out 0⟩
end Go.Proofs.Ytelhjdplghpnbaa
