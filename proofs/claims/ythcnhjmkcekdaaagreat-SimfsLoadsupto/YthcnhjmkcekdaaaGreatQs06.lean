import Derived.Test.YthcnhjmkcekdaaaGreatQs05
namespace Go.Proofs.YthcnhjmkcekdaaaGreat
open Go.RowKit Go.Maps Plain
set_option linter.unusedVariables false
set_option linter.unusedSimpArgs false
def Dk.uses (k : Dk) (u : Int) : Dk := { k with used := u }
theorem usesSt {S : Nat → Prop} {w w1 : World} {d : Nat} {k : Dk} (h : St S w d k w1) (u : Int) : St S w d (k.uses u) (w1.setCell ⟨d, 3, none⟩ (.int .i64 u)) := by
  obtain ⟨⟨ms, md, vc, rc, Sf, hm, hS1, hS2, hS3⟩, hc⟩ := h
  have hg := grow_set w1 d 3 (.int .i64 u)
  have hsz : (w1.setCell ⟨d, 3, none⟩ (.int .i64 u)).heap.size = w1.heap.size := by simp
  have keep : ∀ x, x < w1.heap.size → x ≠ d → (w1.setCell ⟨d, 3, none⟩ (.int .i64 u)).heap[x]? = w1.heap[x]? := fun x hx h1 => hg.block x hx (by simpa using h1)
  have hE : ∀ x, Ext S w w1 x → Ext S w (w1.setCell ⟨d, 3, none⟩ (.int .i64 u)) x := fun x hx => by
    rcases hx with hx | hx
    · exact .inl hx
    · exact .inr ⟨hx.1, by omega⟩
  have hdS : S d ∨ w.heap.size ≤ d := by
    rcases hS1 d (.inl rfl) with h | h
    · exact .inl h
    · exact .inr h.1
  refine ⟨⟨ms, md, vc, rc, Sf, ⟨dset hm.cells 3 _, hm.seen.of_block (fun b e => keep b (hm.seen.rlt b e) (hm.sepS b e).1), hm.dur.of_block (fun b e => keep b (hm.dur.rlt b e) (hm.sepD b e).1), hm.chg.of_block hg.size (fun b e => keep b (hm.chg.rlt b e) (hm.sepC b e)), fun G hG => (hm.files G hG).frame hg.size (fun x hx => keep x ((hm.files G hG).live x hx) (hm.sepF G hG x hx).1), hm.sepS, hm.sepD, hm.sepC, hm.sepF, hm.sepFF⟩, fun x hx => hE x (hS1 x hx), fun G x hG hx => hE x (hS2 G x hG hx), fun x hx => ?_⟩, hc.grown hg (fun g e => by simp at e; subst e; exact hdS)⟩
  rcases hx with hx | hx
  · have := hS3 x (.inl hx); omega
  · exact hx.2
theorem setFileSt {S : Nat → Prop} {w w1 w2 : World} {d G : Nat} {k : Dk} {f : Fl} {ms md : Option Nat} {vc : Value} {rc : Option Nat} {Sf : Nat → Nat → Prop} {S' : Nat → Prop} (hm : DiskM w1 d k ms md vc rc Sf) (hS1 : ∀ x, footD d ms md rc x → Ext S w w1 x) (hS2 : ∀ G x, k.live G → Sf G x → Ext S w w1 x) (hS3 : ∀ x, Ext S w w1 x → x < w1.heap.size) (hc : Chg S w w1) (hG : k.live G)
    (hf : FileAt w2 G f S') (hc2 : Chg (Sf G) w1 w2) (hS : ∀ x, S' x → Sf G x ∨ w1.heap.size ≤ x) : St S w d (k.setFile G f) w2 := by
  have hs1 := hc.size
  have hs2 := hc2.size
  have hE : ∀ x, Ext S w w1 x → Ext S w w2 x := fun x hx => by
    rcases hx with hx | hx
    · exact .inl hx
    · exact .inr ⟨hx.1, by omega⟩
  have hlt : ∀ x, Ext S w w2 x → x < w2.heap.size := fun x hx => by
    rcases hx with hx | hx
    · have := hS3 x (.inl hx); omega
    · exact hx.2
  refine ⟨⟨ms, md, vc, rc, _, hm.setFile hG hf hc2 hS, fun x hx => hE x (hS1 x hx), fun G' x hG' hx => ?_, hlt⟩, ⟨hc2.os.trans hc.os, hc2.tape.trans hc.tape, hc2.output.trans hc.output, by omega, fun i hi hn => ?_⟩⟩
  · by_cases e : G' = G
    · subst e
      rw [upd_same] at hx
      rcases hS x hx with h | h
      · exact hE x (hS2 G' x hG h)
      · exact .inr ⟨by omega, hf.live x hx⟩
    · rw [upd_other _ _ _ _ e] at hx
      exact hE x (hS2 G' x hG' hx)
  · rw [hc2.block i (by omega) (fun e => by
      rcases hS2 G i hG e with h | h
      · exact hn h
      · omega)]
    exact hc.block i hi hn
def Fl.add (f : Fl) (b : List Nat) : Fl := ⟨f.seen ++ b, f.dur, f.chg ++ [FC.add b]⟩
def Fl.trim (f : Fl) (n : Nat) : Fl := ⟨f.seen.take n, f.dur, f.chg ++ [FC.cut n]⟩
theorem addSt {S : Nat → Prop} {w w1 w2 : World} {d G : Nat} {k : Dk} (h : St S w d k w1) (hG : k.live G) (hok : (k.file G).Ok) (hb : Below w1.heap.size w1 w2) (ab : Option Addr) (nb cb : Nat) (b : List Nat) (q : Option Nat) (ho : Own w2 (.slice ab nb cb) b q) (hq : ∀ g, q = some g → w1.heap.size ≤ g) (hlen : (k.file G).seen.length + b.length ≤ 70368744177664) :
    Calls Tryz.prog 80 #[.pointer (some ⟨G, 0, none⟩), .iface 134 (.agg #[.slice ab nb cb])] w2 fun e w3 => e = .returned (.tuple #[]) ∧ St S w d (k.setFile G ((k.file G).add b)) w3 := by
  obtain ⟨⟨ms, md, vc, rc, Sf, hm, hS1, hS2, hS3⟩, hc⟩ := h
  have hm2 := hm.later hb
  refine (doAdd w2 G (k.file G) (Sf G) ab nb cb b q (hm2.files G hG) hok ho (fun g e e2 => by have := hq g e; have := (hm.files G hG).live g e2; omega) hlen).mono ?_
  rintro e w3 ⟨rfl, hf3, hc3⟩
  refine ⟨rfl, setFileSt hm hS1 hS2 hS3 hc hG hf3 ((Chg.ofBelow hb).trans hc3) (fun x hx => ?_)⟩
  have := hb.size
  rcases hx with (hx | hx) | hx
  · exact .inl hx
  · exact .inr (by omega)
  · exact .inr (hq x hx)
theorem cutSt {S : Nat → Prop} {w w1 : World} {d G : Nat} {k : Dk} (h : St S w d k w1) (hG : k.live G) (hok : (k.file G).Ok) (n : Nat) (hn : n ≤ (k.file G).seen.length) :
    Calls Tryz.prog 80 #[.pointer (some ⟨G, 0, none⟩), .iface 136 (.agg #[.int .i64 ((n : Nat) : Int)])] w1 fun e w3 => e = .returned (.tuple #[]) ∧ St S w d (k.setFile G ((k.file G).trim n)) w3 := by
  obtain ⟨⟨ms, md, vc, rc, Sf, hm, hS1, hS2, hS3⟩, hc⟩ := h
  refine (doCut w1 G (k.file G) (Sf G) n (hm.files G hG) hok hn).mono ?_
  rintro e w3 ⟨rfl, hf3, hc3⟩
  refine ⟨rfl, setFileSt hm hS1 hS2 hS3 hc hG hf3 hc3 (fun x hx => ?_)⟩
  rcases hx with hx | hx
  · exact .inl hx
  · exact .inr hx.1
theorem findSt {S : Nat → Prop} {w w1 : World} {d : Nat} {k : Dk} (h : St S w d k w1) (s : ByteArray) (hs : s.size ≤ maxLen) : Calls Tryz.prog 79 #[.pointer (some ⟨d, 0, none⟩), .string s] w1 fun e w' => e = .returned (.tuple #[(fnd k.dead k.L s).1, .int .i64 (fnd k.dead k.L s).2]) ∧ w' = w1.alloc (.cells #[.string s] 9) := by
  obtain ⟨ms, md, vc, rc, Sf, hm⟩ := h.at
  exact findOf d ms k.L k.dead s hs w1 hm.at0.1 hm.at0.2 hm.seen
/-- The bounds that a disk keeps to. -/
structure Dk.Uok (k : Dk) : Prop where
  used : 0 ≤ k.used ∧ k.used ≤ 70368744177664
  quota : 0 ≤ k.quota ∧ k.quota ≤ 1073741824
  each : ∀ p ∈ k.L, ((k.file p.2).seen.length : Int) ≤ k.used
def appendK (k : Dk) (s : ByteArray) (b : List Nat) : Int × Dk := if (fnd k.dead k.L s).2 = 0 then (if 0 < b.length ∧ k.quota - k.used < b.length then (33, k) else match look k.L s.data.toList with
    | some G => if k.can then (0, (k.spent.setFile G ((k.file G).add b)).uses (k.used + b.length)) else (34, k.spent)
    | none => (31, k)) else ((fnd k.dead k.L s).2, k)
theorem SpendAfter {S : Nat → Prop} {w w1 : World} {d n : Nat} {k : Dk} (h : St S w d k w1) (hk : k.Ok n) (hn : n ≤ 4398046511103) : Calls Tryz.prog 78 #[.pointer (some ⟨d, 0, none⟩)] w1 fun e w' => e = .returned (.bool k.can) ∧ St S w d k.spent w' := by
  refine (spendSt d k _ w1 h.1 hk.ops.1 (by have := hk.ops.2; omega) hk.fuse).mono ?_
  rintro e w2 ⟨rfl, h2⟩
  exact ⟨rfl, h.next h2⟩
theorem St.cells {S : Nat → Prop} {w w1 : World} {d : Nat} {k : Dk} (h : St S w d k w1) : w1.cell? ⟨d, 3, none⟩ = some (.int .i64 k.used) ∧ w1.cell? ⟨d, 4, none⟩ = some (.int .i64 k.quota) ∧ w1.frozen? ⟨d, 3, none⟩ = false := by
  obtain ⟨ms, md, vc, rc, Sf, hm⟩ := h.at
  obtain ⟨⟨_, _, _, c3, c4, _, _, _, _⟩, ⟨_, _, _, z3, _, _, _, _, _⟩⟩ := dcells hm.cells
  exact ⟨c3, c4, z3⟩
theorem belowDrewN (w : World) (n : Nat) : Below w.heap.size w (w.drewN n) := ⟨rfl, rfl, rfl, Nat.le_refl _, fun _ _ => rfl⟩
set_option maxHeartbeats 4000000 in
set_option maxRecDepth 1000000 in
theorem appendOf (d : Nat) (k : Dk) (n : Nat) (S : Nat → Prop) (s : ByteArray) (hs : s.size ≤ maxLen) (v : Value) (b : List Nat) (w : World) (h : DiskAt w d k S) (hk : k.Ok n) (hu : k.Uok) (hn : n ≤ 4398046511103) (hb : ∀ w', Chg S w w' → BytesAt w' v b) : Calls Tryz.prog 42 #[.pointer (some ⟨d, 0, none⟩), .string s, v] w (OpPost d (appendK k s b) S w) := by
  have HB1 : Hid (Below w.heap.size w (w.alloc (.cells #[.string s] 9))) := (Below.refl _ _).alloc (Nat.le_refl _) _
  have HFD : Hid (Calls Tryz.prog 79 #[.pointer (some ⟨d, 0, none⟩), .string s] w fun e w' => e = .returned (.tuple #[(fnd k.dead k.L s).1, .int .i64 (fnd k.dead k.L s).2]) ∧ w' = w.alloc (.cells #[.string s] 9)) := findSt (St.start h) s hs
  have HS : Hid (St S w d k (w.alloc (.cells #[.string s] 9))) := (St.start h).below HB1.out
  have HV : Hid (∀ w', Chg S w w' → BytesAt w' v b) := hb
  have hb0 := hb w (Chg.refl _ _)
  have hbl := hb0.len
  unfold maxLen at hbl
  obtain ⟨a, cap, rfl, hlc, hcm, _⟩ := hb0
  unfold maxLen at hcm
  have HK : Hid (k.Ok n) := hk
  obtain ⟨u1, u2⟩ := hu.used
  obtain ⟨v1, v2⟩ := hu.quota
  obtain ⟨W1, hW1⟩ : ∃ W1, w.alloc (.cells #[.string s] 9) = W1 := ⟨_, rfl⟩
  rw [hW1] at HFD HB1 HS
  clear hW1 h hb
  by_cases h0 : (fnd k.dead k.L s).2 = 0
  · obtain ⟨G, hl, hfe⟩ := fnd_ok h0
    rw [hfe] at HFD
    have HLG : Hid (k.live G) := hk.refs _ (look_mem hl)
    have HFO : Hid (k.file G).Ok := (hk.fok G HLG.out).1
    have HSL : Hid (((k.file G).seen.length : Int) ≤ k.used) := hu.each _ (look_mem hl)
    obtain ⟨c3, c4, z3⟩ := HS.out.cells
    have HC : Hid (∀ w', St S w d (k.spent.setFile G ((k.file G).add b)) w' → w'.cell? ⟨d, 3, none⟩ = some (.int .i64 k.used) ∧ w'.frozen? ⟨d, 3, none⟩ = false) := fun w' h' => ⟨h'.cells.1, h'.cells.2.2⟩
    have HSP : Hid (∀ m, Calls Tryz.prog 78 #[.pointer (some ⟨d, 0, none⟩)] (W1.drewN m) fun e w' => e = .returned (.bool k.can) ∧ St S w d k.spent w') := fun m => SpendAfter (HS.out.below (belowDrewN W1 m)) hk hn
    clear hk hu
    obtain ⟨U, hU⟩ : ∃ U, k.used = U := ⟨_, rfl⟩
    obtain ⟨Q, hQ⟩ : ∃ Q, k.quota = Q := ⟨_, rfl⟩
    obtain ⟨N, hN⟩ : ∃ N, b.length = N := ⟨_, rfl⟩
    rw [hU] at u1 u2 c3 HSL HC
    rw [hQ] at v1 v2 c4
    have HN : Hid (b.length = N) := hN
    rw [hN] at hbl hlc HV ⊢
    by_cases hov : 0 < N ∧ Q - U < N
    · have HE : Hid (appendK k s b = (33, k)) := by unfold Hid appendK; rw [if_pos h0, hU, hQ, hN, if_pos hov]
      rw [HE.out]
      obtain ⟨o1, o2⟩ := hov
      clear h0 hl hfe hU hQ hN HSP HC HV
      go_enter Tryz.func42, Tryz.ntmps42
      go_wp2_with fail
      refine HFD.out.mono ?_
      rintro e w1 ⟨rfl, rfl⟩
      go_wp2
      go_quiet (fail)
      go_wp2
      go_ret
      exact ⟨rfl, HS.out.below (belowDrewN _ _)⟩
    · have HAP : Hid (appendK k s b = if k.can then (0, (k.spent.setFile G ((k.file G).add b)).uses (U + N)) else (34, k.spent)) := by unfold Hid appendK; rw [if_pos h0, hU, hQ, hN, if_neg hov, hl]
      have o3 : N ≤ 1073741824 := by omega
      have o4 : N = 0 ∨ (0 < N ∧ (N : Int) ≤ Q - U) := by omega
      clear h0 hl hfe hU hQ hN hov
      cases hc : k.can with
      | false =>
        rw [HAP.out, hc, if_neg (by simp)]
        rw [hc] at HSP
        clear hc HAP HC HV
        go_enter Tryz.func42, Tryz.ntmps42
        go_wp2_with fail
        refine HFD.out.mono ?_
        rintro e w1 ⟨rfl, rfl⟩
        rcases o4 with rfl | ⟨o5, o6⟩
        all_goals
          go_wp2
          go_quiet (fail)
          go_wp2_with fail
          refine (HSP.out _).mono ?_
          rintro e w2 ⟨rfl, hs2⟩
          have HS2 : Hid (St S w d k.spent w2) := hs2
          clear hs2
          go_wp2
          go_ret
          exact ⟨rfl, HS2.out⟩
      | true =>
        rw [HAP.out, hc, if_pos rfl]
        rw [hc] at HSP
        clear hc HAP
        go_enter Tryz.func42, Tryz.ntmps42
        go_wp2_with fail
        refine HFD.out.mono ?_
        rintro e w1 ⟨rfl, rfl⟩
        rcases o4 with rfl | ⟨o5, o6⟩
        all_goals
          go_wp2
          go_quiet (fail)
          go_wp2_with fail
          refine (HSP.out _).mono ?_
          rintro e w2 ⟨rfl, hs2⟩
          have HS2 : Hid (St S w d k.spent w2.drew) := hs2.below (Below.refl _ _).drew
          have HCL : Hid (Calls Tryz.prog 74 #[.slice a _ cap] w2.drew _) := cloneOf _ b w2.drew (HV.out _ HS2.out.2) (by have := HN.out; omega)
          clear hs2
          go_wp2
          go_region_with (first
            | (go_at_call 74
               refine HCL.out.mono ?_
               rintro e w3 ⟨v3, q3, rfl, ho3, hb3, hq3⟩
               obtain ⟨a3, n3, c3', rfl⟩ := isSliceO ho3
               have HDO : Hid (Calls Tryz.prog 80 #[.pointer (some ⟨G, 0, none⟩), .iface 134 (.agg #[.slice a3 n3 c3'])] w3 fun e w4 => e = .returned (.tuple #[]) ∧ St S w d (k.spent.setFile G ((k.file G).add b)) w4) := addSt HS2.out HLG.out HFO.out hb3 a3 n3 c3' b q3 ho3 hq3 (by
                 have q1 := HN.out
                 have q2 := HSL.out
                 show (k.file G).seen.length + b.length ≤ _
                 omega)
               clear ho3 hb3 hq3)
            | (go_at_call 80
               refine HDO.out.mono ?_
               rintro e w4 ⟨rfl, hs4⟩
               have HS4 : Hid (St S w d (k.spent.setFile G ((k.file G).add b)) w4) := hs4
               obtain ⟨d3, y3⟩ := HC.out w4 hs4
               clear hs4))
          all_goals
            go_wp2
            go_ret
            refine ⟨rfl, ?_⟩
            first
              | exact usesSt HS4.out _
              | (have h5 := usesSt HS4.out U; unfold St at h5; simpa using h5)
  · have HE : Hid (appendK k s b = ((fnd k.dead k.L s).2, k)) := by unfold Hid appendK; rw [if_neg h0]
    rw [HE.out]
    have hp := fnd_bad h0
    rw [hp] at HFD
    obtain ⟨z, hz⟩ : ∃ z, (fnd k.dead k.L s).2 = z := ⟨_, rfl⟩
    rw [hz] at HFD h0 ⊢
    have hne : (z != 0) = true := by simpa using h0
    have hne2 : (z == 0) = false := beq_eq_false_iff_ne.mpr h0
    clear hz hp h0 hk hu u1 u2 v1 v2
    go_enter Tryz.func42, Tryz.ntmps42
    go_wp2_with fail
    refine HFD.out.mono ?_
    rintro e w1 ⟨rfl, rfl⟩
    go_wp2
    go_ret
    exact ⟨rfl, HS.out⟩
end Go.Proofs.YthcnhjmkcekdaaaGreat

namespace Go.Proofs.YthcnhjmkcekdaaaGreat
open Go.RowKit Go.Maps Plain
set_option linter.unusedVariables false
set_option linter.unusedSimpArgs false
theorem St.fcell {S : Nat → Prop} {w w1 : World} {d G : Nat} {k : Dk} (h : St S w d k w1) (hG : k.live G) : ∃ a c, w1.cell? ⟨G, 0, none⟩ = some (.slice a (k.file G).seen.length c) ∧ (k.file G).seen.length ≤ c ∧ c ≤ 2 ^ 63 - 1 ∧ BytesAt w1 (.slice a (k.file G).seen.length c) (k.file G).seen := by
  obtain ⟨ms, md, vc, rc, Sf, hm⟩ := h.at
  obtain ⟨vs, vd, vc, rs, rd, rc, vals, blk, hf, _⟩ := hm.files G hG
  obtain ⟨c0, _⟩ := fcells hf.blkG
  obtain ⟨a, nn, c, rfl⟩ := isSliceO hf.seen
  have e := own_len hf.seen
  obtain ⟨q1, q2⟩ := own_cap hf.seen
  have hb := hf.seen.bytes
  rw [← e] at c0 q1 hb
  exact ⟨a, c, c0, q1, q2, hb⟩
def truncK (k : Dk) (s : ByteArray) (n : Int) : Int × Dk := if (fnd k.dead k.L s).2 = 0 then (match look k.L s.data.toList with
    | some G => if n < 0 ∨ n > (k.file G).seen.length then (3, k) else if k.can then (0, (k.spent.uses (k.used - ((k.file G).seen.length - n))).setFile G ((k.file G).trim n.toNat)) else (34, k.spent)
    | none => (31, k)) else ((fnd k.dead k.L s).2, k)
set_option maxHeartbeats 4000000 in
set_option maxRecDepth 1000000 in
theorem truncOf (d : Nat) (k : Dk) (n : Nat) (S : Nat → Prop) (s : ByteArray) (hs : s.size ≤ maxLen) (m : Int) (hm1 : -9223372036854775808 ≤ m) (hm2 : m ≤ 9223372036854775807) (w : World) (h : DiskAt w d k S) (hk : k.Ok n) (hu : k.Uok) (hn : n ≤ 4398046511103) : Calls Tryz.prog 44 #[.pointer (some ⟨d, 0, none⟩), .string s, .int .i64 m] w (OpPost d (truncK k s m) S w) := by
  have HB1 : Hid (Below w.heap.size w (w.alloc (.cells #[.string s] 9))) := (Below.refl _ _).alloc (Nat.le_refl _) _
  have HFD : Hid (Calls Tryz.prog 79 #[.pointer (some ⟨d, 0, none⟩), .string s] w fun e w' => e = .returned (.tuple #[(fnd k.dead k.L s).1, .int .i64 (fnd k.dead k.L s).2]) ∧ w' = w.alloc (.cells #[.string s] 9)) := findSt (St.start h) s hs
  have HS : Hid (St S w d k (w.alloc (.cells #[.string s] 9))) := (St.start h).below HB1.out
  have HK : Hid (k.Ok n) := hk
  obtain ⟨u1, u2⟩ := hu.used
  obtain ⟨W1, hW1⟩ : ∃ W1, w.alloc (.cells #[.string s] 9) = W1 := ⟨_, rfl⟩
  rw [hW1] at HFD HB1 HS
  clear hW1 h
  by_cases h0 : (fnd k.dead k.L s).2 = 0
  · obtain ⟨G, hl, hfe⟩ := fnd_ok h0
    rw [hfe] at HFD
    have HLG : Hid (k.live G) := hk.refs _ (look_mem hl)
    have HFO : Hid (k.file G).Ok := (hk.fok G HLG.out).1
    have q3 : ((k.file G).seen.length : Int) ≤ k.used := hu.each _ (look_mem hl)
    obtain ⟨fa, fc, g0, g1, g2, _⟩ := HS.out.fcell HLG.out
    have HC : Hid (∀ w', St S w d k.spent w' → w'.cell? ⟨d, 3, none⟩ = some (.int .i64 k.used) ∧ w'.frozen? ⟨d, 3, none⟩ = false ∧ ∃ a c, w'.cell? ⟨G, 0, none⟩ = some (.slice a (k.file G).seen.length c) ∧ (k.file G).seen.length ≤ c ∧ c ≤ 2 ^ 63 - 1) := fun w' h' => by
      obtain ⟨a, c, h1, h2, h3, _⟩ := h'.fcell (G := G) HLG.out
      exact ⟨h'.cells.1, h'.cells.2.2, a, c, h1, h2, h3⟩
    have HSP : Hid (Calls Tryz.prog 78 #[.pointer (some ⟨d, 0, none⟩)] W1 fun e w' => e = .returned (.bool k.can) ∧ St S w d k.spent w') := SpendAfter HS.out hk hn
    clear hk hu
    obtain ⟨U, hU⟩ : ∃ U, k.used = U := ⟨_, rfl⟩
    obtain ⟨N, hN⟩ : ∃ N, (k.file G).seen.length = N := ⟨_, rfl⟩
    rw [hU] at u1 u2 q3 HC
    rw [hN] at q3 g0 g1 HC
    have HN : Hid ((k.file G).seen.length = N) := hN
    by_cases hbad : m < 0 ∨ m > N
    · have HE : Hid (truncK k s m = (3, k)) := by unfold Hid truncK; rw [if_pos h0, hl]; simp only [hN, if_pos hbad]
      rw [HE.out]
      clear h0 hl hfe hU hN HSP HC
      go_enter Tryz.func44, Tryz.ntmps44
      go_wp2_with fail
      refine HFD.out.mono ?_
      rintro e w1 ⟨rfl, rfl⟩
      rcases hbad with hbad | hbad
      · go_wp2
        go_ret
        exact ⟨rfl, HS.out⟩
      · by_cases hneg : m < 0
        · go_wp2
          go_ret
          exact ⟨rfl, HS.out⟩
        · go_wp2
          go_ret
          exact ⟨rfl, HS.out⟩
    · have b1 : 0 ≤ m := by omega
      have b2 : m ≤ N := by omega
      obtain ⟨M, rfl⟩ : ∃ M : Nat, m = M := ⟨m.toNat, by omega⟩
      have HAP : Hid (truncK k s (M : Int) = if k.can then (0, (k.spent.uses (U - (N - M))).setFile G ((k.file G).trim M)) else (34, k.spent)) := by
        unfold Hid truncK; rw [if_pos h0, hl]; simp only [hN, hU, if_neg hbad, Int.toNat_natCast]
      clear h0 hl hfe hU hN hbad
      cases hc : k.can with
      | false =>
        rw [HAP.out, hc, if_neg (by simp)]
        rw [hc] at HSP
        clear hc HAP HC
        go_enter Tryz.func44, Tryz.ntmps44
        go_wp2_with fail
        refine HFD.out.mono ?_
        rintro e w1 ⟨rfl, rfl⟩
        go_wp2_with fail
        refine HSP.out.mono ?_
        rintro e w2 ⟨rfl, hs2⟩
        have HS2 : Hid (St S w d k.spent w2) := hs2
        clear hs2
        go_wp2
        go_ret
        exact ⟨rfl, HS2.out⟩
      | true =>
        rw [HAP.out, hc, if_pos rfl]
        rw [hc] at HSP
        clear hc HAP
        go_enter Tryz.func44, Tryz.ntmps44
        go_wp2_with fail
        refine HFD.out.mono ?_
        rintro e w1 ⟨rfl, rfl⟩
        go_wp2_with fail
        refine HSP.out.mono ?_
        rintro e w2 ⟨rfl, hs2⟩
        obtain ⟨d3, y3, fa2, fc2, e0, e1, e2⟩ := HC.out w2 hs2
        have HS3 : Hid (St S w d (k.spent.uses (U - (N - M))) (w2.drew.setCell ⟨d, 3, none⟩ (.int .i64 (U - (N - M))))) := usesSt (hs2.below (Below.refl _ _).drew) _
        have HDO : Hid (Calls Tryz.prog 80 #[.pointer (some ⟨G, 0, none⟩), .iface 136 (.agg #[.int .i64 ((M : Nat) : Int)])] (w2.drew.setCell ⟨d, 3, none⟩ (.int .i64 (U - (N - M)))) fun e w4 => e = .returned (.tuple #[]) ∧ St S w d ((k.spent.uses (U - (N - M))).setFile G ((k.file G).trim M)) w4) := cutSt HS3.out HLG.out HFO.out M (by have := HN.out; show M ≤ (k.file G).seen.length; omega)
        clear hs2 HS3 HC HSP
        go_wp2
        go_region
        all_goals
          go_wp2_with fail
          refine HDO.out.mono ?_
          rintro e w4 ⟨rfl, hs4⟩
          have HS4 : Hid (St S w d ((k.spent.uses (U - (N - M))).setFile G ((k.file G).trim M)) w4) := hs4
          clear hs4
          go_wp2
          go_ret
          exact ⟨rfl, HS4.out⟩
  · have HE : Hid (truncK k s m = ((fnd k.dead k.L s).2, k)) := by unfold Hid truncK; rw [if_neg h0]
    rw [HE.out]
    have hp := fnd_bad h0
    rw [hp] at HFD
    obtain ⟨z, hz⟩ : ∃ z, (fnd k.dead k.L s).2 = z := ⟨_, rfl⟩
    rw [hz] at HFD h0 ⊢
    have hne : (z != 0) = true := by simpa using h0
    have hne2 : (z == 0) = false := beq_eq_false_iff_ne.mpr h0
    clear hz hp h0 hk hu u1 u2
    go_enter Tryz.func44, Tryz.ntmps44
    go_wp2_with fail
    refine HFD.out.mono ?_
    rintro e w1 ⟨rfl, rfl⟩
    go_wp2
    go_ret
    exact ⟨rfl, HS.out⟩
/-- The bytes that a name leads to; none, if it leads to no file. -/
def sizeK (k : Dk) (s : ByteArray) : Nat := (look k.L s.data.toList).elim 0 fun G => (k.file G).seen.length
end Go.Proofs.YthcnhjmkcekdaaaGreat

namespace Go.Proofs.YthcnhjmkcekdaaaGreat
open Go.RowKit Go.Maps Plain
set_option linter.unusedVariables false
set_option linter.unusedSimpArgs false
theorem look_sum {k : Dk} (hu : k.Uok) (s : ByteArray) : (sizeK k s : Int) ≤ k.used := by
  unfold sizeK
  cases hl : look k.L s.data.toList with
  | none => exact hu.used.1
  | some G => exact hu.each _ (look_mem hl)
theorem St.lkup {S : Nat → Prop} {w w1 : World} {d n : Nat} {k : Dk} (h : St S w d k.spent w1) (hk : k.Ok n) (s : ByteArray) (hs : s.size ≤ maxLen) : Calls Tryz.prog 82 #[.pointer (some ⟨d, 0, none⟩), .string s] w1 fun e w' => e = .returned (.int .i64 (sizeK k s : Int)) ∧ w' = w1 := by
  obtain ⟨ms, md, vc, rc, Sf, hm⟩ := h.at
  have hlk := lookO w1 ms k.spent.L hm.seen s hs
  have c0 := hm.at0.1
  cases hl : look k.L s.data.toList with
  | none =>
    have HE : Hid (sizeK k s = 0) := by unfold Hid sizeK; rw [hl]; rfl
    rw [show look k.spent.L s.data.toList = none from hl] at hlk
    simp only [ptrO, Option.elim] at hlk
    clear hm h hk hl
    go_enter Tryz.func82, Tryz.ntmps82
    go_wp2
    go_ret
    exact ⟨by rw [HE.out]; rfl, rfl⟩
  | some G =>
    obtain ⟨fa, fc, g0, g1, g2, _⟩ := h.fcell (G := G) (hk.refs _ (look_mem hl))
    have HE : Hid (sizeK k s = (k.file G).seen.length) := by unfold Hid sizeK; rw [hl]; rfl
    rw [show look k.spent.L s.data.toList = some G from hl] at hlk
    simp only [ptrO, Option.elim] at hlk
    have g0' : w1.cell? ⟨G, 0, none⟩ = some (.slice fa (k.file G).seen.length fc) := g0
    have g1' : (k.file G).seen.length ≤ fc := g1
    clear g0 g1
    generalize (k.file G).seen.length = N at g0' g1' HE
    clear hm h hk hl
    go_enter Tryz.func82, Tryz.ntmps82
    go_wp2
    go_ret
    exact ⟨by rw [HE.out]; rfl, rfl⟩
def removeK (k : Dk) (s : ByteArray) : Int × Dk := if (fnd k.dead k.L s).2 = 0 then (if k.can then (0, (k.spent.uses (k.used - sizeK k s)).did (DC.rm s.data.toList)) else (34, k.spent)) else ((fnd k.dead k.L s).2, k)
set_option maxHeartbeats 4000000 in
set_option maxRecDepth 1000000 in
theorem removeOf (d : Nat) (k : Dk) (n : Nat) (S : Nat → Prop) (s : ByteArray) (hs : s.size ≤ maxLen) (w : World) (h : DiskAt w d k S) (hk : k.Dok n) (hu : k.Uok) (hn : n ≤ 4398046511103) : Calls Tryz.prog 48 #[.pointer (some ⟨d, 0, none⟩), .string s] w (OpPost d (removeK k s) S w) := by
  have HB1 : Hid (Below w.heap.size w (w.alloc (.cells #[.string s] 9))) := (Below.refl _ _).alloc (Nat.le_refl _) _
  have HFD : Hid (Calls Tryz.prog 79 #[.pointer (some ⟨d, 0, none⟩), .string s] w fun e w' => e = .returned (.tuple #[(fnd k.dead k.L s).1, .int .i64 (fnd k.dead k.L s).2]) ∧ w' = w.alloc (.cells #[.string s] 9)) := findSt (St.start h) s hs
  have HS : Hid (St S w d k (w.alloc (.cells #[.string s] 9))) := (St.start h).below HB1.out
  obtain ⟨u1, u2⟩ := hu.used
  have q3 := look_sum hu s
  obtain ⟨W1, hW1⟩ : ∃ W1, w.alloc (.cells #[.string s] 9) = W1 := ⟨_, rfl⟩
  rw [hW1] at HFD HB1 HS
  clear hW1 h
  by_cases h0 : (fnd k.dead k.L s).2 = 0
  · obtain ⟨G, hl, hfe⟩ := fnd_ok h0
    rw [hfe] at HFD
    have HC : Hid (∀ w', St S w d k.spent w' → w'.cell? ⟨d, 3, none⟩ = some (.int .i64 k.used) ∧ w'.frozen? ⟨d, 3, none⟩ = false) := fun w' h' => ⟨h'.cells.1, h'.cells.2.2⟩
    have HSP : Hid (Calls Tryz.prog 78 #[.pointer (some ⟨d, 0, none⟩)] W1 fun e w' => e = .returned (.bool k.can) ∧ St S w d k.spent w') := SpendAfter HS.out hk.ok hn
    have HDO : Hid (∀ u w', St S w d (k.spent.uses u) w' → Calls Tryz.prog 34 #[.pointer (some ⟨d, 0, none⟩), .iface 140 (.agg #[.string s])] w' fun e w2 => e = .returned (.tuple #[]) ∧ St S w d ((k.spent.uses u).did (DC.rm s.data.toList)) w2) := fun u w' h' => by
      have := doDOf w' d (k.spent.uses u) _ (DC.rm s.data.toList) h'.1 ⟨by rw [Array.length_toList]; exact hs, G, hl⟩ (by show k.L.length < _; have := hk.few; omega) (by show k.chg.length ≤ _; have := hk.cnt; omega)
      rw [DC.val_rm, str_of] at this
      refine this.mono ?_
      rintro e w2 ⟨rfl, h2⟩
      exact ⟨rfl, h'.next h2⟩
    have HKO : Hid (k.Ok n) := hk.ok
    have HAP : Hid (removeK k s = if k.can then (0, (k.spent.uses (k.used - sizeK k s)).did (DC.rm s.data.toList)) else (34, k.spent)) := by unfold Hid removeK; rw [if_pos h0]
    have HDS : Hid (∀ w', St S w d k.spent w' → Calls Tryz.prog 82 #[.pointer (some ⟨d, 0, none⟩), .string s] w' fun e w2 => e = .returned (.int .i64 (sizeK k s : Int)) ∧ w2 = w') := fun w' h' => h'.lkup HKO.out s hs
    clear hk hu h0 hl hfe
    obtain ⟨U, hU⟩ : ∃ U, k.used = U := ⟨_, rfl⟩
    obtain ⟨N, hN⟩ : ∃ N, sizeK k s = N := ⟨_, rfl⟩
    rw [hU] at u1 u2 q3 HC HAP
    rw [hN] at q3 HAP HDS
    clear hU hN
    cases hc : k.can with
    | false =>
      rw [HAP.out, hc, if_neg (by simp)]
      rw [hc] at HSP
      clear hc HAP HC HDO
      go_enter Tryz.func48, Tryz.ntmps48
      go_wp2_with fail
      refine HFD.out.mono ?_
      rintro e w1 ⟨rfl, rfl⟩
      go_wp2_with fail
      refine HSP.out.mono ?_
      rintro e w2 ⟨rfl, hs2⟩
      have HS2 : Hid (St S w d k.spent w2) := hs2
      clear hs2
      go_wp2
      go_ret
      exact ⟨rfl, HS2.out⟩
    | true =>
      rw [HAP.out, hc, if_pos rfl]
      rw [hc] at HSP
      clear hc HAP
      go_enter Tryz.func48, Tryz.ntmps48
      go_wp2_with fail
      refine HFD.out.mono ?_
      rintro e w1 ⟨rfl, rfl⟩
      go_wp2_with fail
      refine HSP.out.mono ?_
      rintro e w2 ⟨rfl, hs2⟩
      obtain ⟨d3, y3⟩ := HC.out w2 hs2
      have HS2 : Hid (St S w d k.spent w2.drew) := hs2.below (Below.refl _ _).drew
      have HDS2 : Hid (Calls Tryz.prog 82 #[.pointer (some ⟨d, 0, none⟩), .string s] w2.drew fun e w2' => e = .returned (.int .i64 (N : Int)) ∧ w2' = w2.drew) := HDS.out _ HS2.out
      clear hs2 HC HSP HDS
      go_wp2
      go_region_with (
        go_at_call 82
        refine HDS2.out.mono ?_
        rintro e w3 ⟨rfl, rfl⟩)
      all_goals
        go_wp2_with fail
        refine (HDO.out (U - N) _ (usesSt HS2.out _)).mono ?_
        rintro e w4 ⟨rfl, hs4⟩
        have HS4 : Hid (St S w d ((k.spent.uses (U - N)).did (DC.rm s.data.toList)) w4) := hs4
        clear hs4
        go_wp2
        go_ret
        exact ⟨rfl, HS4.out⟩
  · have HE : Hid (removeK k s = ((fnd k.dead k.L s).2, k)) := by unfold Hid removeK; rw [if_neg h0]
    rw [HE.out]
    have hp := fnd_bad h0
    rw [hp] at HFD
    obtain ⟨z, hz⟩ : ∃ z, (fnd k.dead k.L s).2 = z := ⟨_, rfl⟩
    rw [hz] at HFD h0 ⊢
    have hne : (z != 0) = true := by simpa using h0
    have hne2 : (z == 0) = false := beq_eq_false_iff_ne.mpr h0
    clear hz hp h0 hk hu u1 u2
    go_enter Tryz.func48, Tryz.ntmps48
    go_wp2_with fail
    refine HFD.out.mono ?_
    rintro e w1 ⟨rfl, rfl⟩
    go_wp2
    go_ret
    exact ⟨rfl, HS.out⟩
end Go.Proofs.YthcnhjmkcekdaaaGreat

namespace Go.Proofs.YthcnhjmkcekdaaaGreat
open Go.RowKit Go.Maps Plain
set_option linter.unusedVariables false
set_option linter.unusedSimpArgs false
/-- What Size answers. -/
def szK (k : Dk) (s : ByteArray) : Nat × Int := if (fnd k.dead k.L s).2 = 0 then (sizeK k s, 0) else (0, (fnd k.dead k.L s).2)
/-- A disk with nothing on it. -/
def Dk.fresh (q : Int) : Dk := ⟨[], [], [], 0, q, 0, false, 0, false, fun _ => ⟨[], [], []⟩, fun _ => False⟩
def freshD (q : Int) : Obj := .cells #[.map none, .map none, .slice none 0 0, .int .i64 0, .int .i64 q, .int .i64 0, .bool false, .int .i64 0, .bool false] 70
theorem freshAt (w : World) (q : Int) : DiskAt (w.alloc (freshD q)) w.heap.size (Dk.fresh q) (fun x => x = w.heap.size) := by
  refine ⟨none, none, .slice none 0 0, none, fun _ _ => False, ⟨?_, .inl ⟨rfl, rfl⟩, .inl ⟨rfl, rfl⟩, OwnV.nil _, fun G hG => hG.elim, by simp, by simp, by simp, fun G hG => hG.elim, fun G G' hG => hG.elim⟩, fun x hx => ?_, fun G x hG => hG.elim, fun x hx => ?_⟩
  · show (w.heap.push (freshD q))[w.heap.size]? = _
    simp [freshD, Dk.fresh]
  · rcases hx with rfl | hx | hx | hx
    · rfl
    all_goals simp at hx
  · subst hx; simp
theorem fresh_dok (q : Int) : (Dk.fresh q).Dok 0 :=
  ⟨⟨by simp [Dk.fresh], fun G hG => hG.elim, by simp [Dk.fresh], by simp [Dk.fresh]⟩, ⟨by simp [Dk.fresh], fun k => by simp [Dk.fresh, dst], by simp [Dk.fresh]⟩, rfl, by simp [Dk.fresh], by simp [Dk.fresh]⟩
def qB (q : Int) : Bool := decide (0 ≤ q ∧ q ≤ 1073741824)
set_option maxRecDepth 1000000 in
theorem isQuotaOf (q : Int) (hq1 : -9223372036854775808 ≤ q) (hq2 : q ≤ 9223372036854775807) (w : World) : Calls Tryz.prog 32 #[.int .i64 q] w fun e w' => e = .returned (.bool (qB q)) ∧ w' = w := by
  by_cases h0 : 0 ≤ q
  · by_cases h1 : q ≤ 1073741824
    · have HE : Hid (qB q = true) := by simp [Hid, qB, h0, h1]
      rw [HE.out]
      go_enter Tryz.func32, Tryz.ntmps32
      go_wp2
      go_ret
      first | exact ⟨rfl, rfl⟩ | (refine ⟨?_, rfl⟩; simp; omega)
    · have HE : Hid (qB q = false) := by simp [Hid, qB, h0]; omega
      rw [HE.out]
      have h2 : 1073741824 < q := by omega
      clear h1
      go_enter Tryz.func32, Tryz.ntmps32
      go_wp2
      go_ret
      first | exact ⟨rfl, rfl⟩ | (refine ⟨?_, rfl⟩; simp; omega)
  · have HE : Hid (qB q = false) := by simp [Hid, qB]; omega
    rw [HE.out]
    have h2 : q < 0 := by omega
    clear h0
    go_enter Tryz.func32, Tryz.ntmps32
    go_wp2
    go_ret
    first | exact ⟨rfl, rfl⟩ | (refine ⟨?_, rfl⟩; simp; omega)
set_option maxRecDepth 1000000 in
theorem isImageNil (w : World) : Calls Tryz.prog 33 #[.slice none 0 0] w fun e w' => e = .returned (.bool true) ∧ w' = w := by
  go_enter Tryz.func33, Tryz.ntmps33
  go_wp2
  go_loopg [7] 0 (fun gk s7 wx => s7 = .int .i64 0 ∧ wx = w)
  case atStart => exact ⟨rfl, rfl⟩
  case round =>
    obtain ⟨rfl, rfl⟩ := hrel
    go_wp2
    go_ret
    exact ⟨rfl, rfl⟩
set_option maxHeartbeats 2000000 in
set_option maxRecDepth 1000000 in
theorem loadNil (q : Int) (hq1 : -9223372036854775808 ≤ q) (hq2 : q ≤ 9223372036854775807) (w : World) : Calls Tryz.prog 10 #[.slice none 0 0, .int .i64 q] w fun e w' => (qB q = false ∧ e = .returned (.tuple #[.pointer none, .int .i64 3]) ∧ w' = w) ∨ (qB q = true ∧ e = .returned (.tuple #[.pointer (some ⟨w.heap.size, 0, none⟩), .int .i64 0]) ∧ St (fun x => x = w.heap.size) (w.alloc (freshD q)) w.heap.size (Dk.fresh q) w') := by
  have HQ : Hid (Calls Tryz.prog 32 #[.int .i64 q] w fun e w' => e = .returned (.bool (qB q)) ∧ w' = w) := isQuotaOf q hq1 hq2 w
  have HIM : Hid (Calls Tryz.prog 33 #[.slice none 0 0] w fun e w' => e = .returned (.bool true) ∧ w' = w) := isImageNil w
  have HSE : Hid (Calls Tryz.prog 36 #[.pointer (some ⟨w.heap.size, 0, none⟩)] (w.alloc (freshD q)) fun e w' => e = .returned (.tuple #[]) ∧ St (fun x => x = w.heap.size) (w.alloc (freshD q)) w.heap.size (Dk.fresh q) w') := settleDOf _ _ (Dk.fresh q) _ (freshAt w q) (fresh_dok q).dir (fresh_dok q).eq
  cases hb : qB q with
  | false =>
    rw [hb] at HQ
    have HB : Hid (qB q = false) := hb
    clear hb HSE HIM
    go_enter Tryz.func10, Tryz.ntmps10
    go_wp2_with fail
    refine HQ.out.mono ?_
    rintro e w1 ⟨rfl, rfl⟩
    go_wp2
    go_ret2
    exact .inl ⟨by trivial, rfl, rfl⟩
  | true =>
    rw [hb] at HQ
    clear hb
    go_enter Tryz.func10, Tryz.ntmps10
    go_wp2_with fail
    refine HQ.out.mono ?_
    rintro e w1 ⟨rfl, rfl⟩
    go_wp2_with fail
    refine HIM.out.mono ?_
    rintro e w1 ⟨rfl, rfl⟩
    go_wp2_with fail
    go_loopg [23] 0 (fun gk s23 wx => s23 = .int .i64 0 ∧ wx = w1.alloc (freshD q))
    case atStart => exact ⟨rfl, rfl⟩
    case round =>
      obtain ⟨rfl, rfl⟩ := hrel
      go_wp2_with fail
      refine HSE.out.mono ?_
      rintro e w2 ⟨rfl, hs2⟩
      have HS2 : Hid (St (fun x => x = w1.heap.size) (w1.alloc (freshD q)) w1.heap.size (Dk.fresh q) w2) := hs2
      clear hs2
      go_wp2
      go_ret2
      exact .inr ⟨by trivial, rfl, HS2.out⟩
end Go.Proofs.YthcnhjmkcekdaaaGreat
