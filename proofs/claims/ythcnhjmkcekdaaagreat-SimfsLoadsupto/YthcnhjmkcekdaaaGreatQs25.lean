import Derived.Test.YthcnhjmkcekdaaaGreatQs24
import Derived.BigQuiet
namespace Go.Proofs.YthcnhjmkcekdaaaGreat
open Go.RowKit Go.Maps Plain
set_option linter.unusedVariables false
set_option linter.unusedSimpArgs false
abbrev actV (kd : Int) (nm to : ByteArray) (at' m : Int) (vb : Value) : Value := .agg #[.int .i64 kd, .string nm, .string to, .int .i64 at', .int .i64 m, vb]
abbrev actC (kd : Int) (nm to : ByteArray) (at' m : Int) (vb : Value) : List Value := [.int .i64 kd, .string nm, .string to, .int .i64 at', .int .i64 m, vb]
def rfs1 (p : Ps) (nm : ByteArray) : Int := if nmL nm.data.toList = true then (if 0 ≤ leadL p.last nm.data.toList then 32 else if 65536 ≤ p.last.length then 35 else 0) else 30
def rfs4 (p : Ps) (nm : ByteArray) : Int := if nmL nm.data.toList = true then (if leadL p.last nm.data.toList < 0 then 31 else 0) else 30
def rfs2 (p : Ps) (most : Int) (nm : ByteArray) (b : Nat) : Int := if nmL nm.data.toList = true then (if leadL p.last nm.data.toList < 0 then 31 else if 0 < b ∧ most < (usedN p p.last : Int) + b then 33 else 0) else 30
def rfs3 (p : Ps) (nm : ByteArray) (n : Int) : Int := if nmL nm.data.toList = true then (if leadL p.last nm.data.toList < 0 then 31 else if n < 0 ∨ ((p.now (leadL p.last nm.data.toList).toNat).length : Int) < n then 3 else 0) else 30
def rfs6 (p : Ps) (nm to : ByteArray) : Int := if nmL nm.data.toList = true then (if nmL to.data.toList = true then (if nm.toList = to.toList then 3 else if leadL p.last nm.data.toList < 0 then 31 else 0) else 30) else 30
theorem lead_ref {k : Rk} (hk : k.Ok) {s : Nm} (h : 0 ≤ leadL k.ps.last s) : (leadL k.ps.last s).toNat < k.ps.files.length ∧ 1 ≤ (k.ps.files.getD (leadL k.ps.last s).toNat []).length ∧ (k.ps.files.getD (leadL k.ps.last s).toNat []).length ≤ 2199023255000 := by
  unfold leadL at h ⊢
  cases hf : k.ps.last.find? (fun x => x.1 == s) with
  | none => rw [hf] at h; simp at h
  | some x => exact hk.ref (List.mem_of_find?_eq_some hf)
theorem lead_neg (l : List (Nm × Nat)) (s : Nm) : leadL l s < 0 → leadL l s = -1 := by
  unfold leadL
  cases l.find? (fun x => x.1 == s) with
  | none => intro; rfl
  | some x => intro h; simp at h; omega
theorem SbAt.drew {w : World} {b : Nat} {cs : List Value} (h : SbAt w b cs) (n : Nat) : SbAt (w.drewN n) b cs := h.later (below_drewN (Below.refl _ _) n)
set_option maxHeartbeats 4000000 in
set_option maxRecDepth 1000000 in
theorem refuse5 {w : World} {gp : Nat} {k : Rk} {B : Nat → Prop} {blk : Nat → Option Nat} {vF vD : Value} {xs : List Ino} {dv : List Value} {sv tv : Nat → List Value} (h : RdM w gp k B blk vF vD xs dv sv tv) (hk : k.Ok) (nm to : ByteArray) (at' m : Int) (vb : Value) (hnm : nm.size ≤ maxLen) :
    Calls Tryz.prog 49 #[.pointer (some ⟨gp, 0, none⟩), actV 5 nm to at' m (vb)] w fun e w' => e = .returned (.int .i64 (0)) ∧ Below w.heap.size w w' := by
  obtain ⟨w0, hw0⟩ : ∃ w0, w.alloc (.cells #[.int .i64 5, .string nm, .string to, .int .i64 at', .int .i64 m, vb] 56) = w0 := ⟨_, rfl⟩
  have hb0 : Below w.heap.size w w0 := by rw [← hw0]; exact (Below.refl _ _).alloc (Nat.le_refl _) _
  have HB0 := Hid.mkR hb0
  have HS0 : Hid (SbAt w0 w.heap.size (actC 5 nm to at' m (vb))) := by rw [← hw0]; exact SbAt.new w _ _
  have HR0 := Hid.mkR (h.later hb0)
  have HNM := Hid.mkR (fun u => rnameF nm u hnm)
  have HFD := Hid.mkR (findR (h.later hb0) hk.d1 nm hk.see (by have := hk.ps.dl; omega))
  clear hb0 h
  have z0 := HS0.out 0 _ rfl
  go_enter Tryz.func49, Tryz.ntmps49
  go_wp2
  go_ret
  exact ⟨rfl, HB0.out⟩
set_option maxHeartbeats 4000000 in
set_option maxRecDepth 1000000 in
theorem refuse4 {w : World} {gp : Nat} {k : Rk} {B : Nat → Prop} {blk : Nat → Option Nat} {vF vD : Value} {xs : List Ino} {dv : List Value} {sv tv : Nat → List Value} (h : RdM w gp k B blk vF vD xs dv sv tv) (hk : k.Ok) (nm to : ByteArray) (at' m : Int) (vb : Value) (hnm : nm.size ≤ maxLen) :
    Calls Tryz.prog 49 #[.pointer (some ⟨gp, 0, none⟩), actV 4 nm to at' m (vb)] w fun e w' => e = .returned (.int .i64 (rfs4 k.ps nm)) ∧ Below w.heap.size w w' := by
  obtain ⟨w0, hw0⟩ : ∃ w0, w.alloc (.cells #[.int .i64 4, .string nm, .string to, .int .i64 at', .int .i64 m, vb] 56) = w0 := ⟨_, rfl⟩
  have hb0 : Below w.heap.size w w0 := by rw [← hw0]; exact (Below.refl _ _).alloc (Nat.le_refl _) _
  have HB0 := Hid.mkR hb0
  have HS0 : Hid (SbAt w0 w.heap.size (actC 4 nm to at' m (vb))) := by rw [← hw0]; exact SbAt.new w _ _
  have HR0 := Hid.mkR (h.later hb0)
  have HNM := Hid.mkR (fun u => rnameF nm u hnm)
  have HFD := Hid.mkR (findR (h.later hb0) hk.d1 nm hk.see (by have := hk.ps.dl; omega))
  clear hb0
  cases hn : nmL nm.data.toList with
  | false =>
    have HV : Hid (rfs4 k.ps nm = 30) := by unfold Hid rfs4; rw [if_neg (by rw [hn]; simp)]
    rw [HV.out]
    clear HV
    rw [hn] at HNM
    clear h hn
    have z0 := HS0.out 0 _ rfl
    have z1 := HS0.out 1 _ rfl
    go_enter Tryz.func49, Tryz.ntmps49
    go_wp2_with fail
    refine (HNM.out _).mono ?_
    rintro e w1 ⟨rfl, rfl⟩
    go_wp2
    go_ret
    exact ⟨rfl, HB0.out⟩
  | true =>
    rw [hn] at HNM
    by_cases hl : leadL k.ps.last nm.data.toList < 0
    · have HV : Hid (rfs4 k.ps nm = 31) := by unfold Hid rfs4; rw [if_pos hn, if_pos hl]
      rw [HV.out]
      clear HV
      have hl1 := lead_neg _ _ hl
      rw [hl1] at HFD
      clear h hn hl hl1
      have z0 := HS0.out 0 _ rfl
      have z1 := HS0.out 1 _ rfl
      go_enter Tryz.func49, Tryz.ntmps49
      go_wp2_with fail
      refine (HNM.out _).mono ?_
      rintro e w1 ⟨rfl, rfl⟩
      go_wp2_with fail
      refine HFD.out.mono ?_
      rintro e w2 ⟨rfl, nf, rfl⟩
      have HB2 : Hid (Below w.heap.size w (w1.drewN nf)) := below_drewN HB0.out nf
      have HS2 := Hid.mkR (HS0.out.drew nf)
      have HR2 := Hid.mkR (HR0.out.drewN nf)
      clear HFD HB0 HS0 HR0 z0 z1
      generalize w1.drewN nf = w2 at *
      have z0 := HS2.out 0 _ rfl
      have z1 := HS2.out 1 _ rfl
      go_wp2
      go_ret
      exact ⟨rfl, HB2.out⟩
    · have HV : Hid (rfs4 k.ps nm = 0) := by unfold Hid rfs4; rw [if_pos hn, if_neg hl]
      rw [HV.out]
      clear HV
      generalize leadL k.ps.last nm.data.toList = L at *
      clear h hn
      have z0 := HS0.out 0 _ rfl
      have z1 := HS0.out 1 _ rfl
      go_enter Tryz.func49, Tryz.ntmps49
      go_wp2_with fail
      refine (HNM.out _).mono ?_
      rintro e w1 ⟨rfl, rfl⟩
      go_wp2_with fail
      refine HFD.out.mono ?_
      rintro e w2 ⟨rfl, nf, rfl⟩
      have HB2 : Hid (Below w.heap.size w (w1.drewN nf)) := below_drewN HB0.out nf
      have HS2 := Hid.mkR (HS0.out.drew nf)
      have HR2 := Hid.mkR (HR0.out.drewN nf)
      clear HFD HB0 HS0 HR0 z0 z1
      generalize w1.drewN nf = w2 at *
      have z0 := HS2.out 0 _ rfl
      have z1 := HS2.out 1 _ rfl
      go_wp2_with fail
      go_quiet (fail)
      have HB3 : Hid (Below w.heap.size w (w2.drewN nq)) := below_drewN HB2.out nq
      have HS3 := Hid.mkR (HS2.out.drew nq)
      have HR3 := Hid.mkR (HR2.out.drewN nq)
      clear HB2 HS2 HR2 z0 z1
      generalize w2.drewN nq = w3 at *
      have z0 := HS3.out 0 _ rfl
      have z1 := HS3.out 1 _ rfl
      go_wp2_with fail
      go_quiet (fail)
      have HB4 : Hid (Below w.heap.size w (w3.drewN nq)) := below_drewN HB3.out nq
      have HS4 := Hid.mkR (HS3.out.drew nq)
      have HR4 := Hid.mkR (HR3.out.drewN nq)
      clear HB3 HS3 HR3 z0 z1
      generalize w3.drewN nq = w4 at *
      have z0 := HS4.out 0 _ rfl
      have z1 := HS4.out 1 _ rfl
      go_wp2
      go_ret
      exact ⟨rfl, HB4.out⟩
set_option maxHeartbeats 4000000 in
set_option maxRecDepth 1000000 in
theorem refuse7 {w : World} {gp : Nat} {k : Rk} {B : Nat → Prop} {blk : Nat → Option Nat} {vF vD : Value} {xs : List Ino} {dv : List Value} {sv tv : Nat → List Value} (h : RdM w gp k B blk vF vD xs dv sv tv) (hk : k.Ok) (nm to : ByteArray) (at' m : Int) (vb : Value) (hnm : nm.size ≤ maxLen) :
    Calls Tryz.prog 49 #[.pointer (some ⟨gp, 0, none⟩), actV 7 nm to at' m (vb)] w fun e w' => e = .returned (.int .i64 (rfs4 k.ps nm)) ∧ Below w.heap.size w w' := by
  obtain ⟨w0, hw0⟩ : ∃ w0, w.alloc (.cells #[.int .i64 7, .string nm, .string to, .int .i64 at', .int .i64 m, vb] 56) = w0 := ⟨_, rfl⟩
  have hb0 : Below w.heap.size w w0 := by rw [← hw0]; exact (Below.refl _ _).alloc (Nat.le_refl _) _
  have HB0 := Hid.mkR hb0
  have HS0 : Hid (SbAt w0 w.heap.size (actC 7 nm to at' m (vb))) := by rw [← hw0]; exact SbAt.new w _ _
  have HR0 := Hid.mkR (h.later hb0)
  have HNM := Hid.mkR (fun u => rnameF nm u hnm)
  have HFD := Hid.mkR (findR (h.later hb0) hk.d1 nm hk.see (by have := hk.ps.dl; omega))
  clear hb0
  cases hn : nmL nm.data.toList with
  | false =>
    have HV : Hid (rfs4 k.ps nm = 30) := by unfold Hid rfs4; rw [if_neg (by rw [hn]; simp)]
    rw [HV.out]
    clear HV
    rw [hn] at HNM
    clear h hn
    have z0 := HS0.out 0 _ rfl
    have z1 := HS0.out 1 _ rfl
    go_enter Tryz.func49, Tryz.ntmps49
    go_wp2_with fail
    refine (HNM.out _).mono ?_
    rintro e w1 ⟨rfl, rfl⟩
    go_wp2
    go_ret
    exact ⟨rfl, HB0.out⟩
  | true =>
    rw [hn] at HNM
    by_cases hl : leadL k.ps.last nm.data.toList < 0
    · have HV : Hid (rfs4 k.ps nm = 31) := by unfold Hid rfs4; rw [if_pos hn, if_pos hl]
      rw [HV.out]
      clear HV
      have hl1 := lead_neg _ _ hl
      rw [hl1] at HFD
      clear h hn hl hl1
      have z0 := HS0.out 0 _ rfl
      have z1 := HS0.out 1 _ rfl
      go_enter Tryz.func49, Tryz.ntmps49
      go_wp2_with fail
      refine (HNM.out _).mono ?_
      rintro e w1 ⟨rfl, rfl⟩
      go_wp2_with fail
      refine HFD.out.mono ?_
      rintro e w2 ⟨rfl, nf, rfl⟩
      have HB2 : Hid (Below w.heap.size w (w1.drewN nf)) := below_drewN HB0.out nf
      have HS2 := Hid.mkR (HS0.out.drew nf)
      have HR2 := Hid.mkR (HR0.out.drewN nf)
      clear HFD HB0 HS0 HR0 z0 z1
      generalize w1.drewN nf = w2 at *
      have z0 := HS2.out 0 _ rfl
      have z1 := HS2.out 1 _ rfl
      go_wp2
      go_ret
      exact ⟨rfl, HB2.out⟩
    · have HV : Hid (rfs4 k.ps nm = 0) := by unfold Hid rfs4; rw [if_pos hn, if_neg hl]
      rw [HV.out]
      clear HV
      generalize leadL k.ps.last nm.data.toList = L at *
      clear h hn
      have z0 := HS0.out 0 _ rfl
      have z1 := HS0.out 1 _ rfl
      go_enter Tryz.func49, Tryz.ntmps49
      go_wp2_with fail
      refine (HNM.out _).mono ?_
      rintro e w1 ⟨rfl, rfl⟩
      go_wp2_with fail
      refine HFD.out.mono ?_
      rintro e w2 ⟨rfl, nf, rfl⟩
      have HB2 : Hid (Below w.heap.size w (w1.drewN nf)) := below_drewN HB0.out nf
      have HS2 := Hid.mkR (HS0.out.drew nf)
      have HR2 := Hid.mkR (HR0.out.drewN nf)
      clear HFD HB0 HS0 HR0 z0 z1
      generalize w1.drewN nf = w2 at *
      have z0 := HS2.out 0 _ rfl
      have z1 := HS2.out 1 _ rfl
      go_wp2_with fail
      go_quiet (fail)
      have HB3 : Hid (Below w.heap.size w (w2.drewN nq)) := below_drewN HB2.out nq
      have HS3 := Hid.mkR (HS2.out.drew nq)
      have HR3 := Hid.mkR (HR2.out.drewN nq)
      clear HB2 HS2 HR2 z0 z1
      generalize w2.drewN nq = w3 at *
      have z0 := HS3.out 0 _ rfl
      have z1 := HS3.out 1 _ rfl
      go_wp2_with fail
      go_quiet (fail)
      have HB4 : Hid (Below w.heap.size w (w3.drewN nq)) := below_drewN HB3.out nq
      have HS4 := Hid.mkR (HS3.out.drew nq)
      have HR4 := Hid.mkR (HR3.out.drewN nq)
      clear HB3 HS3 HR3 z0 z1
      generalize w3.drewN nq = w4 at *
      have z0 := HS4.out 0 _ rfl
      have z1 := HS4.out 1 _ rfl
      go_wp2
      go_ret
      exact ⟨rfl, HB4.out⟩
set_option maxHeartbeats 4000000 in
set_option maxRecDepth 1000000 in
theorem refuse1 {w : World} {gp : Nat} {k : Rk} {B : Nat → Prop} {blk : Nat → Option Nat} {vF vD : Value} {xs : List Ino} {dv : List Value} {sv tv : Nat → List Value} (h : RdM w gp k B blk vF vD xs dv sv tv) (hk : k.Ok) (nm to : ByteArray) (at' m : Int) (vb : Value) (hfew : k.ps.last.length ≤ 65536) (hnm : nm.size ≤ maxLen) :
    Calls Tryz.prog 49 #[.pointer (some ⟨gp, 0, none⟩), actV 1 nm to at' m (vb)] w fun e w' => e = .returned (.int .i64 (rfs1 k.ps nm)) ∧ Below w.heap.size w w' := by
  obtain ⟨w0, hw0⟩ : ∃ w0, w.alloc (.cells #[.int .i64 1, .string nm, .string to, .int .i64 at', .int .i64 m, vb] 56) = w0 := ⟨_, rfl⟩
  have hb0 : Below w.heap.size w w0 := by rw [← hw0]; exact (Below.refl _ _).alloc (Nat.le_refl _) _
  have HB0 := Hid.mkR hb0
  have HS0 : Hid (SbAt w0 w.heap.size (actC 1 nm to at' m (vb))) := by rw [← hw0]; exact SbAt.new w _ _
  have HR0 := Hid.mkR (h.later hb0)
  have HNM := Hid.mkR (fun u => rnameF nm u hnm)
  have HFD := Hid.mkR (findR (h.later hb0) hk.d1 nm hk.see (by have := hk.ps.dl; omega))
  clear hb0
  cases hn : nmL nm.data.toList with
  | false =>
    have HV : Hid (rfs1 k.ps nm = 30) := by unfold Hid rfs1; rw [if_neg (by rw [hn]; simp)]
    rw [HV.out]
    clear HV
    rw [hn] at HNM
    clear h hn
    have z0 := HS0.out 0 _ rfl
    have z1 := HS0.out 1 _ rfl
    go_enter Tryz.func49, Tryz.ntmps49
    go_wp2_with fail
    refine (HNM.out _).mono ?_
    rintro e w1 ⟨rfl, rfl⟩
    go_wp2
    go_ret
    exact ⟨rfl, HB0.out⟩
  | true =>
    rw [hn] at HNM
    by_cases hl : 0 ≤ leadL k.ps.last nm.data.toList
    · have HV : Hid (rfs1 k.ps nm = 32) := by unfold Hid rfs1; rw [if_pos hn, if_pos hl]
      rw [HV.out]
      clear HV
      generalize leadL k.ps.last nm.data.toList = L at *
      clear h hn
      have z0 := HS0.out 0 _ rfl
      have z1 := HS0.out 1 _ rfl
      go_enter Tryz.func49, Tryz.ntmps49
      go_wp2_with fail
      refine (HNM.out _).mono ?_
      rintro e w1 ⟨rfl, rfl⟩
      go_wp2_with fail
      refine HFD.out.mono ?_
      rintro e w2 ⟨rfl, nf, rfl⟩
      have HB2 : Hid (Below w.heap.size w (w1.drewN nf)) := below_drewN HB0.out nf
      have HS2 := Hid.mkR (HS0.out.drew nf)
      have HR2 := Hid.mkR (HR0.out.drewN nf)
      clear HFD HB0 HS0 HR0 z0 z1
      generalize w1.drewN nf = w2 at *
      have z0 := HS2.out 0 _ rfl
      have z1 := HS2.out 1 _ rfl
      go_wp2
      go_ret
      exact ⟨rfl, HB2.out⟩
    have hl1 := lead_neg k.ps.last nm.data.toList (by omega)
    rw [hl1] at HFD
    by_cases hf : 65536 ≤ k.ps.last.length
    · have HV : Hid (rfs1 k.ps nm = 35) := by unfold Hid rfs1; rw [if_pos hn, if_neg hl, if_pos hf]
      rw [HV.out]
      clear HV
      clear h hn hl hl1
      have z0 := HS0.out 0 _ rfl
      have z1 := HS0.out 1 _ rfl
      go_enter Tryz.func49, Tryz.ntmps49
      go_wp2_with fail
      refine (HNM.out _).mono ?_
      rintro e w1 ⟨rfl, rfl⟩
      go_wp2_with fail
      refine HFD.out.mono ?_
      rintro e w2 ⟨rfl, nf, rfl⟩
      have HB2 : Hid (Below w.heap.size w (w1.drewN nf)) := below_drewN HB0.out nf
      have HS2 := Hid.mkR (HS0.out.drew nf)
      have HR2 := Hid.mkR (HR0.out.drewN nf)
      clear HFD HB0 HS0 HR0 z0 z1
      generalize w1.drewN nf = w2 at *
      have z0 := HS2.out 0 _ rfl
      have z1 := HS2.out 1 _ rfl
      have HSE : Hid (∃ a c, Calls Tryz.prog 53 #[.pointer (some ⟨gp, 0, none⟩)] w2 fun e w' => e = .returned (.slice a k.ps.last.length c) ∧ ∃ n, w' = w2.drewN n) := by
        obtain ⟨a, c, r, e, -, -⟩ := HR2.out.see hk.d1
        have := seenOf HR2.out hk.d1 (by have := hk.ps.dl; omega)
        rw [e] at this
        exact ⟨a, c, this⟩
      obtain ⟨aS, cS, hSE⟩ := HSE.out
      have HSE2 := Hid.mkR hSE
      clear hSE HSE
      generalize k.ps.last.length = N at *
      obtain rfl : N = 65536 := by omega
      clear hf hfew
      go_wp2_with fail
      refine HSE2.out.mono ?_
      rintro e w3 ⟨rfl, n3, rfl⟩
      have HB3 : Hid (Below w.heap.size w (w2.drewN n3)) := below_drewN HB2.out n3
      clear HSE2
      go_wp2
      go_ret
      exact ⟨rfl, HB3.out⟩
    · have HV : Hid (rfs1 k.ps nm = 0) := by unfold Hid rfs1; rw [if_pos hn, if_neg hl, if_neg hf]
      rw [HV.out]
      clear HV
      clear h hn hl hl1
      have z0 := HS0.out 0 _ rfl
      have z1 := HS0.out 1 _ rfl
      go_enter Tryz.func49, Tryz.ntmps49
      go_wp2_with fail
      refine (HNM.out _).mono ?_
      rintro e w1 ⟨rfl, rfl⟩
      go_wp2_with fail
      refine HFD.out.mono ?_
      rintro e w2 ⟨rfl, nf, rfl⟩
      have HB2 : Hid (Below w.heap.size w (w1.drewN nf)) := below_drewN HB0.out nf
      have HS2 := Hid.mkR (HS0.out.drew nf)
      have HR2 := Hid.mkR (HR0.out.drewN nf)
      clear HFD HB0 HS0 HR0 z0 z1
      generalize w1.drewN nf = w2 at *
      have z0 := HS2.out 0 _ rfl
      have z1 := HS2.out 1 _ rfl
      have HSE : Hid (∃ a c, Calls Tryz.prog 53 #[.pointer (some ⟨gp, 0, none⟩)] w2 fun e w' => e = .returned (.slice a k.ps.last.length c) ∧ ∃ n, w' = w2.drewN n) := by
        obtain ⟨a, c, r, e, -, -⟩ := HR2.out.see hk.d1
        have := seenOf HR2.out hk.d1 (by have := hk.ps.dl; omega)
        rw [e] at this
        exact ⟨a, c, this⟩
      obtain ⟨aS, cS, hSE⟩ := HSE.out
      have HSE2 := Hid.mkR hSE
      clear hSE HSE
      generalize k.ps.last.length = N at *
      have hf2 : N < 65536 := by omega
      clear hf hfew
      go_wp2_with fail
      refine HSE2.out.mono ?_
      rintro e w3 ⟨rfl, n3, rfl⟩
      have HB3 : Hid (Below w.heap.size w (w2.drewN n3)) := below_drewN HB2.out n3
      clear HSE2
      go_wp2
      go_ret
      exact ⟨rfl, HB3.out⟩
set_option maxHeartbeats 4000000 in
set_option maxRecDepth 1000000 in
theorem refuse2 {w : World} {gp : Nat} {k : Rk} {B : Nat → Prop} {blk : Nat → Option Nat} {vF vD : Value} {xs : List Ino} {dv : List Value} {sv tv : Nat → List Value} (h : RdM w gp k B blk vF vD xs dv sv tv) (hk : k.Ok) (nm to : ByteArray) (at' m : Int) (ab : Option Addr) (b cb : Nat) (hbl : b ≤ 281474976710656) (hu : usedN k.ps k.ps.last ≤ 4611686018427387904) (hnm : nm.size ≤ maxLen) :
    Calls Tryz.prog 49 #[.pointer (some ⟨gp, 0, none⟩), actV 2 nm to at' m (.slice ab b cb)] w fun e w' => e = .returned (.int .i64 (rfs2 k.ps k.most nm b)) ∧ Below w.heap.size w w' := by
  obtain ⟨w0, hw0⟩ : ∃ w0, w.alloc (.cells #[.int .i64 2, .string nm, .string to, .int .i64 at', .int .i64 m, .slice ab b cb] 56) = w0 := ⟨_, rfl⟩
  have hb0 : Below w.heap.size w w0 := by rw [← hw0]; exact (Below.refl _ _).alloc (Nat.le_refl _) _
  have HB0 := Hid.mkR hb0
  have HS0 : Hid (SbAt w0 w.heap.size (actC 2 nm to at' m (.slice ab b cb))) := by rw [← hw0]; exact SbAt.new w _ _
  have HR0 := Hid.mkR (h.later hb0)
  have HNM := Hid.mkR (fun u => rnameF nm u hnm)
  have HFD := Hid.mkR (findR (h.later hb0) hk.d1 nm hk.see (by have := hk.ps.dl; omega))
  clear hb0
  cases hn : nmL nm.data.toList with
  | false =>
    have HV : Hid (rfs2 k.ps k.most nm b = 30) := by unfold Hid rfs2; rw [if_neg (by rw [hn]; simp)]
    rw [HV.out]
    clear HV
    rw [hn] at HNM
    clear h hn
    have z0 := HS0.out 0 _ rfl
    have z1 := HS0.out 1 _ rfl
    have z5 := HS0.out 5 _ rfl
    go_enter Tryz.func49, Tryz.ntmps49
    go_wp2_with fail
    refine (HNM.out _).mono ?_
    rintro e w1 ⟨rfl, rfl⟩
    go_wp2
    go_ret
    exact ⟨rfl, HB0.out⟩
  | true =>
    rw [hn] at HNM
    by_cases hl : leadL k.ps.last nm.data.toList < 0
    · have HV : Hid (rfs2 k.ps k.most nm b = 31) := by unfold Hid rfs2; rw [if_pos hn, if_pos hl]
      rw [HV.out]
      clear HV
      have hl1 := lead_neg _ _ hl
      rw [hl1] at HFD
      clear h hn hl hl1
      have z0 := HS0.out 0 _ rfl
      have z1 := HS0.out 1 _ rfl
      have z5 := HS0.out 5 _ rfl
      go_enter Tryz.func49, Tryz.ntmps49
      go_wp2_with fail
      refine (HNM.out _).mono ?_
      rintro e w1 ⟨rfl, rfl⟩
      go_wp2_with fail
      refine HFD.out.mono ?_
      rintro e w2 ⟨rfl, nf, rfl⟩
      have HB2 : Hid (Below w.heap.size w (w1.drewN nf)) := below_drewN HB0.out nf
      have HS2 := Hid.mkR (HS0.out.drew nf)
      have HR2 := Hid.mkR (HR0.out.drewN nf)
      clear HFD HB0 HS0 HR0 z0 z1 z5
      generalize w1.drewN nf = w2 at *
      have z0 := HS2.out 0 _ rfl
      have z1 := HS2.out 1 _ rfl
      have z5 := HS2.out 5 _ rfl
      go_wp2
      go_ret
      exact ⟨rfl, HB2.out⟩
    by_cases hb1 : b = 0
    · have HV : Hid (rfs2 k.ps k.most nm b = 0) := by unfold Hid rfs2; rw [if_pos hn, if_neg hl, if_neg (by omega)]
      rw [HV.out]
      clear HV
      generalize leadL k.ps.last nm.data.toList = L at *
      subst hb1
      clear h hn
      have z0 := HS0.out 0 _ rfl
      have z1 := HS0.out 1 _ rfl
      have z5 := HS0.out 5 _ rfl
      go_enter Tryz.func49, Tryz.ntmps49
      go_wp2_with fail
      refine (HNM.out _).mono ?_
      rintro e w1 ⟨rfl, rfl⟩
      go_wp2_with fail
      refine HFD.out.mono ?_
      rintro e w2 ⟨rfl, nf, rfl⟩
      have HB2 : Hid (Below w.heap.size w (w1.drewN nf)) := below_drewN HB0.out nf
      have HS2 := Hid.mkR (HS0.out.drew nf)
      have HR2 := Hid.mkR (HR0.out.drewN nf)
      clear HFD HB0 HS0 HR0 z0 z1 z5
      generalize w1.drewN nf = w2 at *
      have z0 := HS2.out 0 _ rfl
      have z1 := HS2.out 1 _ rfl
      have z5 := HS2.out 5 _ rfl
      go_wp2_with fail
      go_quiet (fail)
      have HB3 : Hid (Below w.heap.size w (w2.drewN nq)) := below_drewN HB2.out nq
      have HS3 := Hid.mkR (HS2.out.drew nq)
      have HR3 := Hid.mkR (HR2.out.drewN nq)
      clear HB2 HS2 HR2 z0 z1 z5
      generalize w2.drewN nq = w3 at *
      have z0 := HS3.out 0 _ rfl
      have z1 := HS3.out 1 _ rfl
      have z5 := HS3.out 5 _ rfl
      go_wp2_with fail
      go_quiet (fail)
      have HB4 : Hid (Below w.heap.size w (w3.drewN nq)) := below_drewN HB3.out nq
      have HS4 := Hid.mkR (HS3.out.drew nq)
      have HR4 := Hid.mkR (HR3.out.drewN nq)
      clear HB3 HS3 HR3 z0 z1 z5
      generalize w3.drewN nq = w4 at *
      have z0 := HS4.out 0 _ rfl
      have z1 := HS4.out 1 _ rfl
      have z5 := HS4.out 5 _ rfl
      go_wp2
      go_ret
      exact ⟨rfl, HB4.out⟩
    have hbp : decide (0 < b) = true := decide_eq_true (by omega)
    by_cases hq : k.most < (usedN k.ps k.ps.last : Int) + b
    · have HV : Hid (rfs2 k.ps k.most nm b = 33) := by unfold Hid rfs2; rw [if_pos hn, if_neg hl, if_pos ⟨by omega, hq⟩]
      rw [HV.out]
      clear HV
      generalize leadL k.ps.last nm.data.toList = L at *
      have hqd : decide (k.most < (usedN k.ps k.ps.last : Int) + b) = true := decide_eq_true hq
      clear h hn hb1
      have z0 := HS0.out 0 _ rfl
      have z1 := HS0.out 1 _ rfl
      have z5 := HS0.out 5 _ rfl
      go_enter Tryz.func49, Tryz.ntmps49
      go_wp2_with fail
      refine (HNM.out _).mono ?_
      rintro e w1 ⟨rfl, rfl⟩
      go_wp2_with fail
      refine HFD.out.mono ?_
      rintro e w2 ⟨rfl, nf, rfl⟩
      have HB2 : Hid (Below w.heap.size w (w1.drewN nf)) := below_drewN HB0.out nf
      have HS2 := Hid.mkR (HS0.out.drew nf)
      have HR2 := Hid.mkR (HR0.out.drewN nf)
      clear HFD HB0 HS0 HR0 z0 z1 z5
      generalize w1.drewN nf = w2 at *
      have z0 := HS2.out 0 _ rfl
      have z1 := HS2.out 1 _ rfl
      have z5 := HS2.out 5 _ rfl
      have HUS := Hid.mkR (fun n => rusedOf (HR2.out.drewN n) hk hu)
      have k2 := (rcells HR2.out.cells).1.2.2.1
      generalize usedN k.ps k.ps.last = U at *
      generalize k.most = Q at *
      have hww : IntKind.i64.wrap ((U : Int) + (b : Int)) = (U : Int) + (b : Int) := IntWalk.i64_in _ (by omega)
      go_wp2_with fail
      go_quiet ((go_at_call 24; exact Calls.quiet_of (HUS.out _)))
      have HB3 : Hid (Below w.heap.size w (w2.drewN nq)) := below_drewN HB2.out nq
      have HS3 := Hid.mkR (HS2.out.drew nq)
      have HR3 := Hid.mkR (HR2.out.drewN nq)
      clear HB2 HS2 HR2 z0 z1 z5
      generalize w2.drewN nq = w3 at *
      have z0 := HS3.out 0 _ rfl
      have z1 := HS3.out 1 _ rfl
      have z5 := HS3.out 5 _ rfl
      go_wp2
      go_ret
      exact ⟨rfl, HB3.out⟩
    · have HV : Hid (rfs2 k.ps k.most nm b = 0) := by unfold Hid rfs2; rw [if_pos hn, if_neg hl, if_neg (fun hh => hq hh.2)]
      rw [HV.out]
      clear HV
      generalize leadL k.ps.last nm.data.toList = L at *
      have hqd : decide (k.most < (usedN k.ps k.ps.last : Int) + b) = false := decide_eq_false hq
      clear h hn hb1
      have z0 := HS0.out 0 _ rfl
      have z1 := HS0.out 1 _ rfl
      have z5 := HS0.out 5 _ rfl
      go_enter Tryz.func49, Tryz.ntmps49
      go_wp2_with fail
      refine (HNM.out _).mono ?_
      rintro e w1 ⟨rfl, rfl⟩
      go_wp2_with fail
      refine HFD.out.mono ?_
      rintro e w2 ⟨rfl, nf, rfl⟩
      have HB2 : Hid (Below w.heap.size w (w1.drewN nf)) := below_drewN HB0.out nf
      have HS2 := Hid.mkR (HS0.out.drew nf)
      have HR2 := Hid.mkR (HR0.out.drewN nf)
      clear HFD HB0 HS0 HR0 z0 z1 z5
      generalize w1.drewN nf = w2 at *
      have z0 := HS2.out 0 _ rfl
      have z1 := HS2.out 1 _ rfl
      have z5 := HS2.out 5 _ rfl
      have HUS := Hid.mkR (fun n => rusedOf (HR2.out.drewN n) hk hu)
      have k2 := (rcells HR2.out.cells).1.2.2.1
      generalize usedN k.ps k.ps.last = U at *
      generalize k.most = Q at *
      have hww : IntKind.i64.wrap ((U : Int) + (b : Int)) = (U : Int) + (b : Int) := IntWalk.i64_in _ (by omega)
      go_wp2_with fail
      go_quiet ((go_at_call 24; exact Calls.quiet_of (HUS.out _)))
      have HB3 : Hid (Below w.heap.size w (w2.drewN nq)) := below_drewN HB2.out nq
      have HS3 := Hid.mkR (HS2.out.drew nq)
      have HR3 := Hid.mkR (HR2.out.drewN nq)
      clear HB2 HS2 HR2 z0 z1 z5
      generalize w2.drewN nq = w3 at *
      have z0 := HS3.out 0 _ rfl
      have z1 := HS3.out 1 _ rfl
      have z5 := HS3.out 5 _ rfl
      clear HUS k2
      go_wp2_with fail
      go_quiet (fail)
      have HB4 : Hid (Below w.heap.size w (w3.drewN nq)) := below_drewN HB3.out nq
      have HS4 := Hid.mkR (HS3.out.drew nq)
      have HR4 := Hid.mkR (HR3.out.drewN nq)
      clear HB3 HS3 HR3 z0 z1 z5
      generalize w3.drewN nq = w4 at *
      have z0 := HS4.out 0 _ rfl
      have z1 := HS4.out 1 _ rfl
      have z5 := HS4.out 5 _ rfl
      go_wp2
      go_ret
      exact ⟨rfl, HB4.out⟩
set_option maxHeartbeats 4000000 in
set_option maxRecDepth 1000000 in
theorem refuse3 {w : World} {gp : Nat} {k : Rk} {B : Nat → Prop} {blk : Nat → Option Nat} {vF vD : Value} {xs : List Ino} {dv : List Value} {sv tv : Nat → List Value} (h : RdM w gp k B blk vF vD xs dv sv tv) (hk : k.Ok) (nm to : ByteArray) (at' m : Int) (vb : Value) (hm : I64 m) (hnm : nm.size ≤ maxLen) :
    Calls Tryz.prog 49 #[.pointer (some ⟨gp, 0, none⟩), actV 3 nm to at' m (vb)] w fun e w' => e = .returned (.int .i64 (rfs3 k.ps nm m)) ∧ Below w.heap.size w w' := by
  obtain ⟨w0, hw0⟩ : ∃ w0, w.alloc (.cells #[.int .i64 3, .string nm, .string to, .int .i64 at', .int .i64 m, vb] 56) = w0 := ⟨_, rfl⟩
  have hb0 : Below w.heap.size w w0 := by rw [← hw0]; exact (Below.refl _ _).alloc (Nat.le_refl _) _
  have HB0 := Hid.mkR hb0
  have HS0 : Hid (SbAt w0 w.heap.size (actC 3 nm to at' m (vb))) := by rw [← hw0]; exact SbAt.new w _ _
  have HR0 := Hid.mkR (h.later hb0)
  have HNM := Hid.mkR (fun u => rnameF nm u hnm)
  have HFD := Hid.mkR (findR (h.later hb0) hk.d1 nm hk.see (by have := hk.ps.dl; omega))
  obtain ⟨hmA, hmB⟩ := hm
  clear hb0
  cases hn : nmL nm.data.toList with
  | false =>
    have HV : Hid (rfs3 k.ps nm m = 30) := by unfold Hid rfs3; rw [if_neg (by rw [hn]; simp)]
    rw [HV.out]
    clear HV
    rw [hn] at HNM
    clear h hn
    have z0 := HS0.out 0 _ rfl
    have z1 := HS0.out 1 _ rfl
    have z4 := HS0.out 4 _ rfl
    go_enter Tryz.func49, Tryz.ntmps49
    go_wp2_with fail
    refine (HNM.out _).mono ?_
    rintro e w1 ⟨rfl, rfl⟩
    go_wp2
    go_ret
    exact ⟨rfl, HB0.out⟩
  | true =>
    rw [hn] at HNM
    by_cases hl : leadL k.ps.last nm.data.toList < 0
    · have HV : Hid (rfs3 k.ps nm m = 31) := by unfold Hid rfs3; rw [if_pos hn, if_pos hl]
      rw [HV.out]
      clear HV
      have hl1 := lead_neg _ _ hl
      rw [hl1] at HFD
      clear h hn hl hl1
      have z0 := HS0.out 0 _ rfl
      have z1 := HS0.out 1 _ rfl
      have z4 := HS0.out 4 _ rfl
      go_enter Tryz.func49, Tryz.ntmps49
      go_wp2_with fail
      refine (HNM.out _).mono ?_
      rintro e w1 ⟨rfl, rfl⟩
      go_wp2_with fail
      refine HFD.out.mono ?_
      rintro e w2 ⟨rfl, nf, rfl⟩
      have HB2 : Hid (Below w.heap.size w (w1.drewN nf)) := below_drewN HB0.out nf
      have HS2 := Hid.mkR (HS0.out.drew nf)
      have HR2 := Hid.mkR (HR0.out.drewN nf)
      clear HFD HB0 HS0 HR0 z0 z1 z4
      generalize w1.drewN nf = w2 at *
      have z0 := HS2.out 0 _ rfl
      have z1 := HS2.out 1 _ rfl
      have z4 := HS2.out 4 _ rfl
      go_wp2
      go_ret
      exact ⟨rfl, HB2.out⟩
    obtain ⟨hr1, hr2, hr3⟩ := lead_ref hk (s := nm.data.toList) (by omega)
    obtain ⟨f, hLf⟩ : ∃ f : Nat, leadL k.ps.last nm.data.toList = (f : Int) := ⟨_, (Int.toNat_of_nonneg (by omega)).symm⟩
    rw [hLf, Int.toNat_natCast] at hr1 hr2 hr3
    rw [hLf] at HFD
    have HBY := Hid.mkR (fun (u : World) (hh : RdM u gp k B blk vF vD xs dv sv tv) => bytesG hh hr1 hr2 (by have := hk.ps.fl; omega) (by omega))
    have hfneg : ¬ (f : Int) < 0 := by omega
    by_cases hm0 : m < 0
    · have HV : Hid (rfs3 k.ps nm m = 3) := by unfold Hid rfs3; rw [if_pos hn, if_neg hl, if_pos (.inl hm0)]
      rw [HV.out]
      clear HV
      have hmd : decide (m < 0) = true := decide_eq_true hm0
      clear h hn hl hLf
      have z0 := HS0.out 0 _ rfl
      have z1 := HS0.out 1 _ rfl
      have z4 := HS0.out 4 _ rfl
      go_enter Tryz.func49, Tryz.ntmps49
      go_wp2_with fail
      refine (HNM.out _).mono ?_
      rintro e w1 ⟨rfl, rfl⟩
      go_wp2_with fail
      refine HFD.out.mono ?_
      rintro e w2 ⟨rfl, nf, rfl⟩
      have HB2 : Hid (Below w.heap.size w (w1.drewN nf)) := below_drewN HB0.out nf
      have HS2 := Hid.mkR (HS0.out.drew nf)
      have HR2 := Hid.mkR (HR0.out.drewN nf)
      clear HFD HB0 HS0 HR0 z0 z1 z4
      generalize w1.drewN nf = w2 at *
      have z0 := HS2.out 0 _ rfl
      have z1 := HS2.out 1 _ rfl
      have z4 := HS2.out 4 _ rfl
      go_wp2_with fail
      go_quiet (fail)
      have HB3 : Hid (Below w.heap.size w (w2.drewN nq)) := below_drewN HB2.out nq
      have HS3 := Hid.mkR (HS2.out.drew nq)
      have HR3 := Hid.mkR (HR2.out.drewN nq)
      clear HB2 HS2 HR2 z0 z1 z4
      generalize w2.drewN nq = w3 at *
      have z0 := HS3.out 0 _ rfl
      have z1 := HS3.out 1 _ rfl
      have z4 := HS3.out 4 _ rfl
      go_wp2_with fail
      go_quiet (fail)
      have HB4 : Hid (Below w.heap.size w (w3.drewN nq)) := below_drewN HB3.out nq
      have HS4 := Hid.mkR (HS3.out.drew nq)
      have HR4 := Hid.mkR (HR3.out.drewN nq)
      clear HB3 HS3 HR3 z0 z1 z4
      generalize w3.drewN nq = w4 at *
      have z0 := HS4.out 0 _ rfl
      have z1 := HS4.out 1 _ rfl
      have z4 := HS4.out 4 _ rfl
      go_wp2
      go_ret
      exact ⟨rfl, HB4.out⟩
    have hmd : decide (m < 0) = false := decide_eq_false hm0
    by_cases hm1 : ((k.ps.now f).length : Int) < m
    · have HV : Hid (rfs3 k.ps nm m = 3) := by unfold Hid rfs3; rw [if_pos hn, if_neg hl, hLf, Int.toNat_natCast, if_pos (.inr hm1)]
      rw [HV.out]
      clear HV
      have hme : decide (((k.ps.now f).length : Int) < m) = true := decide_eq_true hm1
      clear h hn hl hLf
      have z0 := HS0.out 0 _ rfl
      have z1 := HS0.out 1 _ rfl
      have z4 := HS0.out 4 _ rfl
      go_enter Tryz.func49, Tryz.ntmps49
      go_wp2_with fail
      refine (HNM.out _).mono ?_
      rintro e w1 ⟨rfl, rfl⟩
      go_wp2_with fail
      refine HFD.out.mono ?_
      rintro e w2 ⟨rfl, nf, rfl⟩
      have HB2 : Hid (Below w.heap.size w (w1.drewN nf)) := below_drewN HB0.out nf
      have HS2 := Hid.mkR (HS0.out.drew nf)
      have HR2 := Hid.mkR (HR0.out.drewN nf)
      clear HFD HB0 HS0 HR0 z0 z1 z4
      generalize w1.drewN nf = w2 at *
      have z0 := HS2.out 0 _ rfl
      have z1 := HS2.out 1 _ rfl
      have z4 := HS2.out 4 _ rfl
      go_wp2_with fail
      go_quiet (fail)
      have HB3 : Hid (Below w.heap.size w (w2.drewN nq)) := below_drewN HB2.out nq
      have HS3 := Hid.mkR (HS2.out.drew nq)
      have HR3 := Hid.mkR (HR2.out.drewN nq)
      clear HB2 HS2 HR2 z0 z1 z4
      generalize w2.drewN nq = w3 at *
      have z0 := HS3.out 0 _ rfl
      have z1 := HS3.out 1 _ rfl
      have z4 := HS3.out 4 _ rfl
      have HBY2 := HBY.out _ HR3.out
      obtain ⟨aB, cB, rB, -, -, hB, -⟩ := HBY2
      have HBZ := Hid.mkR (fun n => hB n)
      clear hB HBY
      generalize (k.ps.now f).length = LN at *
      go_wp2_with fail
      go_quiet ((go_at_call 55; exact HBZ.out _))
      have HB4 : Hid (Below w.heap.size w (w3.drewN nq)) := below_drewN HB3.out nq
      have HS4 := Hid.mkR (HS3.out.drew nq)
      have HR4 := Hid.mkR (HR3.out.drewN nq)
      clear HB3 HS3 HR3 z0 z1 z4
      generalize w3.drewN nq = w4 at *
      have z0 := HS4.out 0 _ rfl
      have z1 := HS4.out 1 _ rfl
      have z4 := HS4.out 4 _ rfl
      go_wp2
      go_ret
      exact ⟨rfl, HB4.out⟩
    · have HV : Hid (rfs3 k.ps nm m = 0) := by unfold Hid rfs3; rw [if_pos hn, if_neg hl, hLf, Int.toNat_natCast, if_neg (by omega)]
      rw [HV.out]
      clear HV
      have hme : decide (((k.ps.now f).length : Int) < m) = false := decide_eq_false hm1
      clear h hn hl hLf
      have z0 := HS0.out 0 _ rfl
      have z1 := HS0.out 1 _ rfl
      have z4 := HS0.out 4 _ rfl
      go_enter Tryz.func49, Tryz.ntmps49
      go_wp2_with fail
      refine (HNM.out _).mono ?_
      rintro e w1 ⟨rfl, rfl⟩
      go_wp2_with fail
      refine HFD.out.mono ?_
      rintro e w2 ⟨rfl, nf, rfl⟩
      have HB2 : Hid (Below w.heap.size w (w1.drewN nf)) := below_drewN HB0.out nf
      have HS2 := Hid.mkR (HS0.out.drew nf)
      have HR2 := Hid.mkR (HR0.out.drewN nf)
      clear HFD HB0 HS0 HR0 z0 z1 z4
      generalize w1.drewN nf = w2 at *
      have z0 := HS2.out 0 _ rfl
      have z1 := HS2.out 1 _ rfl
      have z4 := HS2.out 4 _ rfl
      go_wp2_with fail
      go_quiet (fail)
      have HB3 : Hid (Below w.heap.size w (w2.drewN nq)) := below_drewN HB2.out nq
      have HS3 := Hid.mkR (HS2.out.drew nq)
      have HR3 := Hid.mkR (HR2.out.drewN nq)
      clear HB2 HS2 HR2 z0 z1 z4
      generalize w2.drewN nq = w3 at *
      have z0 := HS3.out 0 _ rfl
      have z1 := HS3.out 1 _ rfl
      have z4 := HS3.out 4 _ rfl
      have HBY2 := HBY.out _ HR3.out
      obtain ⟨aB, cB, rB, -, -, hB, -⟩ := HBY2
      have HBZ := Hid.mkR (fun n => hB n)
      clear hB HBY
      generalize (k.ps.now f).length = LN at *
      go_wp2_with fail
      go_quiet ((go_at_call 55; exact HBZ.out _))
      have HB4 : Hid (Below w.heap.size w (w3.drewN nq)) := below_drewN HB3.out nq
      have HS4 := Hid.mkR (HS3.out.drew nq)
      have HR4 := Hid.mkR (HR3.out.drewN nq)
      clear HB3 HS3 HR3 z0 z1 z4
      generalize w3.drewN nq = w4 at *
      have z0 := HS4.out 0 _ rfl
      have z1 := HS4.out 1 _ rfl
      have z4 := HS4.out 4 _ rfl
      go_wp2
      go_ret
      exact ⟨rfl, HB4.out⟩
set_option maxHeartbeats 4000000 in
set_option maxRecDepth 1000000 in
theorem refuse6 {w : World} {gp : Nat} {k : Rk} {B : Nat → Prop} {blk : Nat → Option Nat} {vF vD : Value} {xs : List Ino} {dv : List Value} {sv tv : Nat → List Value} (h : RdM w gp k B blk vF vD xs dv sv tv) (hk : k.Ok) (nm to : ByteArray) (at' m : Int) (vb : Value) (hto : to.size ≤ maxLen) (hnm : nm.size ≤ maxLen) :
    Calls Tryz.prog 49 #[.pointer (some ⟨gp, 0, none⟩), actV 6 nm to at' m (vb)] w fun e w' => e = .returned (.int .i64 (rfs6 k.ps nm to)) ∧ Below w.heap.size w w' := by
  obtain ⟨w0, hw0⟩ : ∃ w0, w.alloc (.cells #[.int .i64 6, .string nm, .string to, .int .i64 at', .int .i64 m, vb] 56) = w0 := ⟨_, rfl⟩
  have hb0 : Below w.heap.size w w0 := by rw [← hw0]; exact (Below.refl _ _).alloc (Nat.le_refl _) _
  have HB0 := Hid.mkR hb0
  have HS0 : Hid (SbAt w0 w.heap.size (actC 6 nm to at' m (vb))) := by rw [← hw0]; exact SbAt.new w _ _
  have HR0 := Hid.mkR (h.later hb0)
  have HNM := Hid.mkR (fun u => rnameF nm u hnm)
  have HFD := Hid.mkR (findR (h.later hb0) hk.d1 nm hk.see (by have := hk.ps.dl; omega))
  have HNT := Hid.mkR (fun u => rnameF to u hto)
  clear hb0
  cases hn : nmL nm.data.toList with
  | false =>
    have HV : Hid (rfs6 k.ps nm to = 30) := by unfold Hid rfs6; rw [if_neg (by rw [hn]; simp)]
    rw [HV.out]
    clear HV
    rw [hn] at HNM
    generalize nmL to.data.toList = bt at *
    clear h hn
    have z0 := HS0.out 0 _ rfl
    have z1 := HS0.out 1 _ rfl
    have z2 := HS0.out 2 _ rfl
    go_enter Tryz.func49, Tryz.ntmps49
    go_wp2_with fail
    refine (HNM.out _).mono ?_
    rintro e w1 ⟨rfl, rfl⟩
    go_wp2_with fail
    refine (HNT.out _).mono ?_
    rintro e w9 ⟨rfl, rfl⟩
    go_wp2
    go_ret
    exact ⟨rfl, HB0.out⟩
  | true =>
    rw [hn] at HNM
    cases ht : nmL to.data.toList with
    | false =>
      have HV : Hid (rfs6 k.ps nm to = 30) := by unfold Hid rfs6; rw [if_pos hn, if_neg (by rw [ht]; simp)]
      rw [HV.out]
      clear HV
      rw [ht] at HNT
      clear h hn ht
      have z0 := HS0.out 0 _ rfl
      have z1 := HS0.out 1 _ rfl
      have z2 := HS0.out 2 _ rfl
      go_enter Tryz.func49, Tryz.ntmps49
      go_wp2_with fail
      refine (HNM.out _).mono ?_
      rintro e w1 ⟨rfl, rfl⟩
      go_wp2_with fail
      refine (HNT.out _).mono ?_
      rintro e w9 ⟨rfl, rfl⟩
      go_wp2
      go_ret
      exact ⟨rfl, HB0.out⟩
    | true =>
      rw [ht] at HNT
      by_cases he : nm.toList = to.toList
      · have HV : Hid (rfs6 k.ps nm to = 3) := by unfold Hid rfs6; rw [if_pos hn, if_pos ht, if_pos he]
        rw [HV.out]
        clear HV
        have hbe : (nm.toList == to.toList) = true := beq_iff_eq.mpr he
        clear h hn ht he
        have z0 := HS0.out 0 _ rfl
        have z1 := HS0.out 1 _ rfl
        have z2 := HS0.out 2 _ rfl
        go_enter Tryz.func49, Tryz.ntmps49
        go_wp2_with fail
        refine (HNM.out _).mono ?_
        rintro e w1 ⟨rfl, rfl⟩
        go_wp2_with fail
        refine (HNT.out _).mono ?_
        rintro e w9 ⟨rfl, rfl⟩
        go_wp2
        go_ret
        exact ⟨rfl, HB0.out⟩
      have hbe : (nm.toList == to.toList) = false := beq_eq_false_iff_ne.mpr he
      by_cases hl : leadL k.ps.last nm.data.toList < 0
      · have HV : Hid (rfs6 k.ps nm to = 31) := by unfold Hid rfs6; rw [if_pos hn, if_pos ht, if_neg he, if_pos hl]
        rw [HV.out]
        clear HV
        have hl1 := lead_neg _ _ hl
        rw [hl1] at HFD
        clear h hn ht he hl hl1
        have z0 := HS0.out 0 _ rfl
        have z1 := HS0.out 1 _ rfl
        have z2 := HS0.out 2 _ rfl
        go_enter Tryz.func49, Tryz.ntmps49
        go_wp2_with fail
        refine (HNM.out _).mono ?_
        rintro e w1 ⟨rfl, rfl⟩
        go_wp2_with fail
        refine (HNT.out _).mono ?_
        rintro e w9 ⟨rfl, rfl⟩
        go_wp2_with fail
        refine HFD.out.mono ?_
        rintro e w2 ⟨rfl, nf, rfl⟩
        have HB2 : Hid (Below w.heap.size w (w9.drewN nf)) := below_drewN HB0.out nf
        have HS2 := Hid.mkR (HS0.out.drew nf)
        have HR2 := Hid.mkR (HR0.out.drewN nf)
        clear HFD HB0 HS0 HR0 z0 z1 z2
        generalize w9.drewN nf = w2 at *
        have z0 := HS2.out 0 _ rfl
        have z1 := HS2.out 1 _ rfl
        have z2 := HS2.out 2 _ rfl
        go_wp2
        go_ret
        exact ⟨rfl, HB2.out⟩
      · have HV : Hid (rfs6 k.ps nm to = 0) := by unfold Hid rfs6; rw [if_pos hn, if_pos ht, if_neg he, if_neg hl]
        rw [HV.out]
        clear HV
        generalize leadL k.ps.last nm.data.toList = L at *
        clear h hn ht he
        have z0 := HS0.out 0 _ rfl
        have z1 := HS0.out 1 _ rfl
        have z2 := HS0.out 2 _ rfl
        go_enter Tryz.func49, Tryz.ntmps49
        go_wp2_with fail
        refine (HNM.out _).mono ?_
        rintro e w1 ⟨rfl, rfl⟩
        go_wp2_with fail
        refine (HNT.out _).mono ?_
        rintro e w9 ⟨rfl, rfl⟩
        go_wp2_with fail
        refine HFD.out.mono ?_
        rintro e w2 ⟨rfl, nf, rfl⟩
        have HB2 : Hid (Below w.heap.size w (w9.drewN nf)) := below_drewN HB0.out nf
        have HS2 := Hid.mkR (HS0.out.drew nf)
        have HR2 := Hid.mkR (HR0.out.drewN nf)
        clear HFD HB0 HS0 HR0 z0 z1 z2
        generalize w9.drewN nf = w2 at *
        have z0 := HS2.out 0 _ rfl
        have z1 := HS2.out 1 _ rfl
        have z2 := HS2.out 2 _ rfl
        go_wp2_with fail
        go_quiet (fail)
        have HB3 : Hid (Below w.heap.size w (w2.drewN nq)) := below_drewN HB2.out nq
        have HS3 := Hid.mkR (HS2.out.drew nq)
        have HR3 := Hid.mkR (HR2.out.drewN nq)
        clear HB2 HS2 HR2 z0 z1 z2
        generalize w2.drewN nq = w3 at *
        have z0 := HS3.out 0 _ rfl
        have z1 := HS3.out 1 _ rfl
        have z2 := HS3.out 2 _ rfl
        go_wp2_with fail
        go_quiet (fail)
        have HB4 : Hid (Below w.heap.size w (w3.drewN nq)) := below_drewN HB3.out nq
        have HS4 := Hid.mkR (HS3.out.drew nq)
        have HR4 := Hid.mkR (HR3.out.drewN nq)
        clear HB3 HS3 HR3 z0 z1 z2
        generalize w3.drewN nq = w4 at *
        have z0 := HS4.out 0 _ rfl
        have z1 := HS4.out 1 _ rfl
        have z2 := HS4.out 2 _ rfl
        go_wp2
        go_ret
        exact ⟨rfl, HB4.out⟩
end Go.Proofs.YthcnhjmkcekdaaaGreat
