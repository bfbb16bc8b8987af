import Derived.Test.YtgffncbmchimdaaSfE
/-! Append, Truncate. -/
namespace Go.Proofs.Ytgffncbmchimdaa
open Go.RowKit Go.Maps Plain
set_option linter.unusedVariables false
set_option linter.unusedSimpArgs false

def Dk.uses (k : Dk) (u : Int) : Dk := { k with used := u }
theorem usesSt {S : Nat → Prop} {w w1 : World} {d : Nat} {k : Dk} (h : St S w d k w1) (u : Int) : St S w d (k.uses u) (w1.setCell ⟨d, 3, none⟩ (.int .i64 u)) := by
  obtain ⟨⟨ms, md, vc, rc, Sf, hm, hS1, hS2, hS3⟩, hc⟩ := h
  have hg := grow_set w1 d 3 (.int .i64 u)
  have hsz : (w1.setCell ⟨d, 3, none⟩ (.int .i64 u)).heap.size = w1.heap.size := by simp
  have keep : ∀ x, x < w1.heap.size → x ≠ d → (w1.setCell ⟨d, 3, none⟩ (.int .i64 u)).heap[x]? = w1.heap[x]? := fun x hx h1 => hg.block x hx (by simpa using h1)
  have hE : ∀ x, Ext S w w1 x → Ext S w (w1.setCell ⟨d, 3, none⟩ (.int .i64 u)) x := fun x hx => by
    rcases hx with hx | hx
    · exact .inl hx
    · exact .inr ⟨hx.1, by omega⟩
  have hdS : S d ∨ w.heap.size ≤ d := by
    rcases hS1 d (.inl rfl) with h | h
    · exact .inl h
    · exact .inr h.1
  refine ⟨⟨ms, md, vc, rc, Sf, ⟨dset hm.cells 3 _, hm.seen.of_block (fun b e => keep b (hm.seen.rlt b e) (hm.sepS b e).1), hm.dur.of_block (fun b e => keep b (hm.dur.rlt b e) (hm.sepD b e).1), hm.chg.of_block hg.size (fun b e => keep b (hm.chg.rlt b e) (hm.sepC b e)), fun G hG => (hm.files G hG).frame hg.size (fun x hx => keep x ((hm.files G hG).live x hx) (hm.sepF G hG x hx).1), hm.sepS, hm.sepD, hm.sepC, hm.sepF, hm.sepFF⟩, fun x hx => hE x (hS1 x hx), fun G x hG hx => hE x (hS2 G x hG hx), fun x hx => ?_⟩, hc.grown hg (fun g e => by simp at e; subst e; exact hdS)⟩
  rcases hx with hx | hx
  · have := hS3 x (.inl hx); omega
  · exact hx.2

theorem setFileSt {S : Nat → Prop} {w w1 w2 : World} {d G : Nat} {k : Dk} {f : Fl} {ms md : Option Nat} {vc : Value} {rc : Option Nat} {Sf : Nat → Nat → Prop} {S' : Nat → Prop} (hm : DiskM w1 d k ms md vc rc Sf) (hS1 : ∀ x, footD d ms md rc x → Ext S w w1 x) (hS2 : ∀ G x, k.live G → Sf G x → Ext S w w1 x) (hS3 : ∀ x, Ext S w w1 x → x < w1.heap.size) (hc : Chg S w w1) (hG : k.live G)
    (hf : FileAt w2 G f S') (hc2 : Chg (Sf G) w1 w2) (hS : ∀ x, S' x → Sf G x ∨ w1.heap.size ≤ x) : St S w d (k.setFile G f) w2 := by
  have hs1 := hc.size
  have hs2 := hc2.size
  have hE : ∀ x, Ext S w w1 x → Ext S w w2 x := fun x hx => by
    rcases hx with hx | hx
    · exact .inl hx
    · exact .inr ⟨hx.1, by omega⟩
  have hlt : ∀ x, Ext S w w2 x → x < w2.heap.size := fun x hx => by
    rcases hx with hx | hx
    · have := hS3 x (.inl hx); omega
    · exact hx.2
  refine ⟨⟨ms, md, vc, rc, _, hm.setFile hG hf hc2 hS, fun x hx => hE x (hS1 x hx), fun G' x hG' hx => ?_, hlt⟩, ⟨hc2.os.trans hc.os, hc2.tape.trans hc.tape, hc2.output.trans hc.output, by omega, fun i hi hn => ?_⟩⟩
  · by_cases e : G' = G
    · subst e
      rw [upd_same] at hx
      rcases hS x hx with h | h
      · exact hE x (hS2 G' x hG h)
      · exact .inr ⟨by omega, hf.live x hx⟩
    · rw [upd_other _ _ _ _ e] at hx
      exact hE x (hS2 G' x hG' hx)
  · rw [hc2.block i (by omega) (fun e => by
      rcases hS2 G i hG e with h | h
      · exact hn h
      · omega)]
    exact hc.block i hi hn

def Fl.add (f : Fl) (b : List Nat) : Fl := ⟨f.seen ++ b, f.dur, f.chg ++ [FC.add b]⟩
def Fl.trim (f : Fl) (n : Nat) : Fl := ⟨f.seen.take n, f.dur, f.chg ++ [FC.cut n]⟩
theorem addSt {S : Nat → Prop} {w w1 w2 : World} {d G : Nat} {k : Dk} (h : St S w d k w1) (hG : k.live G) (hok : (k.file G).Ok) (hb : Below w1.heap.size w1 w2) (ab : Option Addr) (nb cb : Nat) (b : List Nat) (q : Option Nat) (ho : Own w2 (.slice ab nb cb) b q) (hq : ∀ g, q = some g → w1.heap.size ≤ g) (hlen : (k.file G).seen.length + b.length ≤ 70368744177664) :
    Calls Try.prog 50 #[.pointer (some ⟨G, 0, none⟩), .iface 105 (.agg #[.slice ab nb cb])] w2 fun e w3 => e = .returned (.tuple #[]) ∧ St S w d (k.setFile G ((k.file G).add b)) w3 := by
  obtain ⟨⟨ms, md, vc, rc, Sf, hm, hS1, hS2, hS3⟩, hc⟩ := h
  have hm2 := hm.later hb
  refine (doAdd w2 G (k.file G) (Sf G) ab nb cb b q (hm2.files G hG) hok ho (fun g e e2 => by have := hq g e; have := (hm.files G hG).live g e2; omega) hlen).mono ?_
  rintro e w3 ⟨rfl, hf3, hc3⟩
  refine ⟨rfl, setFileSt hm hS1 hS2 hS3 hc hG hf3 ((Chg.ofBelow hb).trans hc3) (fun x hx => ?_)⟩
  have := hb.size
  rcases hx with (hx | hx) | hx
  · exact .inl hx
  · exact .inr (by omega)
  · exact .inr (hq x hx)
theorem cutSt {S : Nat → Prop} {w w1 : World} {d G : Nat} {k : Dk} (h : St S w d k w1) (hG : k.live G) (hok : (k.file G).Ok) (n : Nat) (hn : n ≤ (k.file G).seen.length) :
    Calls Try.prog 50 #[.pointer (some ⟨G, 0, none⟩), .iface 107 (.agg #[.int .i64 ((n : Nat) : Int)])] w1 fun e w3 => e = .returned (.tuple #[]) ∧ St S w d (k.setFile G ((k.file G).trim n)) w3 := by
  obtain ⟨⟨ms, md, vc, rc, Sf, hm, hS1, hS2, hS3⟩, hc⟩ := h
  refine (doCut w1 G (k.file G) (Sf G) n (hm.files G hG) hok hn).mono ?_
  rintro e w3 ⟨rfl, hf3, hc3⟩
  refine ⟨rfl, setFileSt hm hS1 hS2 hS3 hc hG hf3 hc3 (fun x hx => ?_)⟩
  rcases hx with hx | hx
  · exact .inl hx
  · exact .inr hx.1
theorem findSt {S : Nat → Prop} {w w1 : World} {d : Nat} {k : Dk} (h : St S w d k w1) (s : ByteArray) (hs : s.size ≤ maxLen) : Calls Try.prog 31 #[.pointer (some ⟨d, 0, none⟩), .string s] w1 fun e w' => e = .returned (.tuple #[(fnd k.dead k.L s).1, .int .i64 (fnd k.dead k.L s).2]) ∧ w' = w1.alloc (.cells #[.string s] 9) := by
  obtain ⟨ms, md, vc, rc, Sf, hm⟩ := h.at
  exact findOf d ms k.L k.dead s hs w1 hm.at0.1 hm.at0.2 hm.seen
/-- The bounds that a disk keeps to. -/
structure Dk.Uok (k : Dk) : Prop where
  used : 0 ≤ k.used ∧ k.used ≤ 1073741824
  quota : 0 ≤ k.quota ∧ k.quota ≤ 1073741824
  each : ∀ p ∈ k.L, ((k.file p.2).seen.length : Int) ≤ k.used

def appendK (k : Dk) (s : ByteArray) (b : List Nat) : Int × Dk := if (fnd k.dead k.L s).2 = 0 then (if 0 < b.length ∧ k.quota - k.used < b.length then (33, k) else match look k.L s.data.toList with
    | some G => if k.can then (0, (k.spent.setFile G ((k.file G).add b)).uses (k.used + b.length)) else (34, k.spent)
    | none => (31, k)) else ((fnd k.dead k.L s).2, k)
theorem SpendAfter {S : Nat → Prop} {w w1 : World} {d n : Nat} {k : Dk} (h : St S w d k w1) (hk : k.Ok n) (hn : n ≤ 4398046511103) : Calls Try.prog 32 #[.pointer (some ⟨d, 0, none⟩)] w1 fun e w' => e = .returned (.bool k.can) ∧ St S w d k.spent w' := by
  refine (spendSt d k _ w1 h.1 hk.ops.1 (by have := hk.ops.2; omega) hk.fuse).mono ?_
  rintro e w2 ⟨rfl, h2⟩
  exact ⟨rfl, h.next h2⟩
theorem St.cells {S : Nat → Prop} {w w1 : World} {d : Nat} {k : Dk} (h : St S w d k w1) : w1.cell? ⟨d, 3, none⟩ = some (.int .i64 k.used) ∧ w1.cell? ⟨d, 4, none⟩ = some (.int .i64 k.quota) ∧ w1.frozen? ⟨d, 3, none⟩ = false := by
  obtain ⟨ms, md, vc, rc, Sf, hm⟩ := h.at
  obtain ⟨⟨_, _, _, c3, c4, _, _, _, _⟩, ⟨_, _, _, z3, _, _, _, _, _⟩⟩ := dcells hm.cells
  exact ⟨c3, c4, z3⟩

theorem belowDrewN (w : World) (n : Nat) : Below w.heap.size w (w.drewN n) := ⟨rfl, rfl, rfl, Nat.le_refl _, fun _ _ => rfl⟩

set_option maxHeartbeats 4000000 in
set_option maxRecDepth 1000000 in
theorem appendOf (d : Nat) (k : Dk) (n : Nat) (S : Nat → Prop) (s : ByteArray) (hs : s.size ≤ maxLen) (v : Value) (b : List Nat) (w : World) (h : DiskAt w d k S) (hk : k.Ok n) (hu : k.Uok) (hn : n ≤ 4398046511103) (hb : ∀ w', Chg S w w' → BytesAt w' v b) : Calls Try.prog 22 #[.pointer (some ⟨d, 0, none⟩), .string s, v] w (OpPost d (appendK k s b) S w) := by
  have HB1 : Hid (Below w.heap.size w (w.alloc (.cells #[.string s] 9))) := (Below.refl _ _).alloc (Nat.le_refl _) _
  have HFD : Hid (Calls Try.prog 31 #[.pointer (some ⟨d, 0, none⟩), .string s] w fun e w' => e = .returned (.tuple #[(fnd k.dead k.L s).1, .int .i64 (fnd k.dead k.L s).2]) ∧ w' = w.alloc (.cells #[.string s] 9)) := findSt (St.start h) s hs
  have HS : Hid (St S w d k (w.alloc (.cells #[.string s] 9))) := (St.start h).below HB1.out
  have HV : Hid (∀ w', Chg S w w' → BytesAt w' v b) := hb
  have hb0 := hb w (Chg.refl _ _)
  have hbl := hb0.len
  unfold maxLen at hbl
  obtain ⟨a, cap, rfl, hlc, hcm, _⟩ := hb0
  unfold maxLen at hcm
  have HK : Hid (k.Ok n) := hk
  obtain ⟨u1, u2⟩ := hu.used
  obtain ⟨v1, v2⟩ := hu.quota
  obtain ⟨W1, hW1⟩ : ∃ W1, w.alloc (.cells #[.string s] 9) = W1 := ⟨_, rfl⟩
  rw [hW1] at HFD HB1 HS
  clear hW1 h hb
  by_cases h0 : (fnd k.dead k.L s).2 = 0
  · obtain ⟨G, hl, hfe⟩ := fnd_ok h0
    rw [hfe] at HFD
    have HLG : Hid (k.live G) := hk.refs _ (look_mem hl)
    have HFO : Hid (k.file G).Ok := (hk.fok G HLG.out).1
    have HSL : Hid (((k.file G).seen.length : Int) ≤ k.used) := hu.each _ (look_mem hl)
    obtain ⟨c3, c4, z3⟩ := HS.out.cells
    have HC : Hid (∀ w', St S w d (k.spent.setFile G ((k.file G).add b)) w' → w'.cell? ⟨d, 3, none⟩ = some (.int .i64 k.used) ∧ w'.frozen? ⟨d, 3, none⟩ = false) := fun w' h' => ⟨h'.cells.1, h'.cells.2.2⟩
    have HSP : Hid (∀ m, Calls Try.prog 32 #[.pointer (some ⟨d, 0, none⟩)] (W1.drewN m) fun e w' => e = .returned (.bool k.can) ∧ St S w d k.spent w') := fun m => SpendAfter (HS.out.below (belowDrewN W1 m)) hk hn
    clear hk hu
    obtain ⟨U, hU⟩ : ∃ U, k.used = U := ⟨_, rfl⟩
    obtain ⟨Q, hQ⟩ : ∃ Q, k.quota = Q := ⟨_, rfl⟩
    obtain ⟨N, hN⟩ : ∃ N, b.length = N := ⟨_, rfl⟩
    rw [hU] at u1 u2 c3 HSL HC
    rw [hQ] at v1 v2 c4
    have HN : Hid (b.length = N) := hN
    rw [hN] at hbl hlc HV ⊢
    by_cases hov : 0 < N ∧ Q - U < N
    · have HE : Hid (appendK k s b = (33, k)) := by unfold Hid appendK; rw [if_pos h0, hU, hQ, hN, if_pos hov]
      rw [HE.out]
      obtain ⟨o1, o2⟩ := hov
      clear h0 hl hfe hU hQ hN HSP HC HV
      go_enter Try.func22, Try.ntmps22
      go_wp2_with fail
      refine HFD.out.mono ?_
      rintro e w1 ⟨rfl, rfl⟩
      go_wp2
      go_quiet (fail)
      go_wp2
      go_ret
      exact ⟨rfl, HS.out.below (belowDrewN _ _)⟩
    · have HAP : Hid (appendK k s b = if k.can then (0, (k.spent.setFile G ((k.file G).add b)).uses (U + N)) else (34, k.spent)) := by unfold Hid appendK; rw [if_pos h0, hU, hQ, hN, if_neg hov, hl]
      have o3 : N ≤ 1073741824 := by omega
      have o4 : N = 0 ∨ (0 < N ∧ (N : Int) ≤ Q - U) := by omega
      clear h0 hl hfe hU hQ hN hov
      cases hc : k.can with
      | false =>
        rw [HAP.out, hc, if_neg (by simp)]
        rw [hc] at HSP
        clear hc HAP HC HV
        go_enter Try.func22, Try.ntmps22
        go_wp2_with fail
        refine HFD.out.mono ?_
        rintro e w1 ⟨rfl, rfl⟩
        rcases o4 with rfl | ⟨o5, o6⟩
        all_goals
          go_wp2
          go_quiet (fail)
          go_wp2_with fail
          refine (HSP.out _).mono ?_
          rintro e w2 ⟨rfl, hs2⟩
          have HS2 : Hid (St S w d k.spent w2) := hs2
          clear hs2
          go_wp2
          go_ret
          exact ⟨rfl, HS2.out⟩
      | true =>
        rw [HAP.out, hc, if_pos rfl]
        rw [hc] at HSP
        clear hc HAP
        go_enter Try.func22, Try.ntmps22
        go_wp2_with fail
        refine HFD.out.mono ?_
        rintro e w1 ⟨rfl, rfl⟩
        rcases o4 with rfl | ⟨o5, o6⟩
        all_goals
          go_wp2
          go_quiet (fail)
          go_wp2_with fail
          refine (HSP.out _).mono ?_
          rintro e w2 ⟨rfl, hs2⟩
          have HS2 : Hid (St S w d k.spent w2.drew) := hs2.below (Below.refl _ _).drew
          have HCL : Hid (Calls Try.prog 37 #[.slice a _ cap] w2.drew _) := cloneOf _ b w2.drew (HV.out _ HS2.out.2) (by have := HN.out; omega)
          clear hs2
          go_wp2
          go_region_with (first
            | (go_at_call 37
               refine HCL.out.mono ?_
               rintro e w3 ⟨v3, q3, rfl, ho3, hb3, hq3⟩
               obtain ⟨a3, n3, c3', rfl⟩ := isSliceO ho3
               have HDO : Hid (Calls Try.prog 50 #[.pointer (some ⟨G, 0, none⟩), .iface 105 (.agg #[.slice a3 n3 c3'])] w3 fun e w4 => e = .returned (.tuple #[]) ∧ St S w d (k.spent.setFile G ((k.file G).add b)) w4) := addSt HS2.out HLG.out HFO.out hb3 a3 n3 c3' b q3 ho3 hq3 (by
                 have q1 := HN.out
                 have q2 := HSL.out
                 show (k.file G).seen.length + b.length ≤ _
                 omega)
               clear ho3 hb3 hq3)
            | (go_at_call 50
               refine HDO.out.mono ?_
               rintro e w4 ⟨rfl, hs4⟩
               have HS4 : Hid (St S w d (k.spent.setFile G ((k.file G).add b)) w4) := hs4
               obtain ⟨d3, y3⟩ := HC.out w4 hs4
               clear hs4))
          all_goals
            go_wp2
            go_ret
            refine ⟨rfl, ?_⟩
            first
              | exact usesSt HS4.out _
              | (have h5 := usesSt HS4.out U; unfold St at h5; simpa using h5)
  · have HE : Hid (appendK k s b = ((fnd k.dead k.L s).2, k)) := by unfold Hid appendK; rw [if_neg h0]
    rw [HE.out]
    have hp := fnd_bad h0
    rw [hp] at HFD
    obtain ⟨z, hz⟩ : ∃ z, (fnd k.dead k.L s).2 = z := ⟨_, rfl⟩
    rw [hz] at HFD h0 ⊢
    have hne : (z != 0) = true := by simpa using h0
    have hne2 : (z == 0) = false := beq_eq_false_iff_ne.mpr h0
    clear hz hp h0 hk hu u1 u2 v1 v2
    go_enter Try.func22, Try.ntmps22
    go_wp2_with fail
    refine HFD.out.mono ?_
    rintro e w1 ⟨rfl, rfl⟩
    go_wp2
    go_ret
    exact ⟨rfl, HS.out⟩
end Go.Proofs.Ytgffncbmchimdaa
