import Derived.Test.YtlnppgjppfkocaaGreatDoorGq42
import Derived.Test.YtlnppgjppfkocaaGreatDoorGq14
import Derived.Test.YtlnppgjppfkocaaGreatDoorGq17
import Derived.Test.YtlnppgjppfkocaaGreatDoorGq16
import Derived.Deep.DeepCutAuto
/-! ShellBlanks's walk. -/
namespace Go.Proofs.YtlnppgjppfkocaaGreatDoor.Xs
open Go.RowKit Plain
set_option linter.unusedVariables false
set_option linter.unusedSimpArgs false

theorem par_230 {line : By} {c : Cm} {z : Int} (hw : WfC c) (h : ParA line c z) (hn : ∀ d, ¬ IsLine d line) : z = 230 := by
  rcases h with ⟨h1, _⟩ | ⟨_, _, h3⟩
  · exact (hn c h1).elim
  · exact h3

def insB (s : By) (k : Nat) : Bool := decide (0 < k) && decide (k < s.length) && !(s.getD (k - 1) 32 == 32) && !(s.getD k 32 == 32)
theorem insB_iff (s : By) (k : Nat) : insB s k = true ↔ Inside s k := by
  unfold insB Inside
  simp [and_assoc]
theorem u8_beq (a b : UInt8) : ((a.toNat : Int) == (b.toNat : Int)) = (a == b) := by
  rw [Bool.eq_iff_iff, beq_iff_eq, beq_iff_eq]
  exact ⟨fun e => UInt8.toNat_inj.1 (by omega), fun e => by rw [e]⟩
/-- Parse of a line that is none's, if Q. -/
theorem parse_no {Tb : World → Prop} (hR : ParseOk Tb) (L : By) (hl : L.length ≤ 1125899906842624) (Q : Prop) (hn : Q → ∀ d, ¬ IsLine d L) (a : ByteArray) (ha : a.data.toList = L) (u : World) (hu : Tb u) :
    Calls Tryz.prog 10 #[.string a] u fun e w' => (∃ d ad nd kd ap np kp z, e = .returned (.tuple #[cmV d (.slice ad nd kd) (.slice ap np kp), .int .i64 z]) ∧ (Q → z = 230)) ∧ Below u.heap.size u w' := by
  have e : Value.string a = .string (ba L) := str_eq ha
  rw [e]
  refine (hR L u hu hl).mono ?_
  rintro e w' ⟨⟨c, vr, vp, z, rfl, hw, hp, hnw⟩, hb⟩
  obtain ⟨h1, h2⟩ := hnw.reads hp
  obtain ⟨a1, k1, rfl, _⟩ := h1
  obtain ⟨a2, k2, rfl, _⟩ := h2
  exact ⟨⟨c, a1, _, k1, a2, _, k2, z, rfl, fun hq => par_230 hw hp (hn hq)⟩, hb⟩

set_option maxHeartbeats 16000000 in
set_option maxRecDepth 100000 in
theorem blanksWalk {Tb : World → Prop} (hTb : Kept Tb) (hP : PrintOk Tb) (hR : ParseOk Tb) (c : Cm) (vr vp : Value) (at' : Int) (w : World) (h1 : BysAt w vr c.raw) (h2 : PksAt w vp c.picks) (hw : WfC c) (hz : SzC c) (hat : I64 at') (ht : Tb w) :
    Calls Tryz.prog 3 #[cmV c vr vp, .int .i64 at'] w fun e w' => e = .returned (.bool true) ∧ Below w.heap.size w w' := by
  have HTB : Hid (∀ u, Below w.heap.size w u → Tb u) := fun u hu => hTb w u ht hu
  have H1 := mkH h1
  have H2 := mkH h2
  have HW := mkH hw
  have HZ := mkH hz
  obtain ⟨ar, kr, rfl, _⟩ := h1
  obtain ⟨ap, kp, rfl, _⟩ := h2
  clear hw hz
  have hx1 := cmBox w c (.slice ar c.raw.length kr) (.slice ap c.picks.length kp) 28
  obtain ⟨W1, hW1⟩ : ∃ u, w.alloc (.cells #[.int .i64 c.verb, .int .i64 c.conn, .int .u32 c.req.id, .int .i64 c.req.op, .string (ba c.req.topic), .string (ba c.req.key), .string (ba c.req.value), .int .i64 c.req.offset, .int .i64 c.req.number, .int .i64 c.req.pid, .int .i64 c.req.seq, .slice ar c.raw.length kr, .int .i64 c.n, .slice ap c.picks.length kp] 28) = u := ⟨_, rfl⟩
  rw [hW1] at hx1
  have HB1 : Hid (Below w.heap.size w W1) := hx1.1
  have HX1 : Hid (∀ u, Below W1.heap.size W1 u → CmAt u w.heap.size c (.slice ar c.raw.length kr) (.slice ap c.picks.length kp)) := fun u hu => hx1.2.later hu
  have HWK := mkH (fun u (hu : Tb u) => lworksOf hTb hP hR u hu)
  have HPR : Hid (Calls Tryz.prog 8 #[cmV c (.slice ar c.raw.length kr) (.slice ap c.picks.length kp)] W1 fun e w' => (∃ l z, e = .returned (.tuple #[.string (ba l), .int .i64 z]) ∧ PriA c l z) ∧ Below W1.heap.size W1 w') := hP c _ _ W1 (HTB.out _ HB1.out) (H1.out.later HB1.out) (H2.out.later HB1.out) HW.out HZ.out
  have HR := mkH hR
  obtain ⟨z0, z1, z2, z3, z4, z5, z6, z7, z8, z9, z10, z11, z12, z13⟩ := hx1.2
  clear hx1 H1 H2 hP hR
  go_enter Tryz.func3, Tryz.ntmps3
  go_wp2_with fail
  refine HPR.out.mono ?_
  rintro e w2 ⟨⟨s, z, rfl, hpr⟩, hb2⟩
  have HB2 : Hid (Below W1.heap.size W1 w2) := hb2
  clear hb2 HPR hW1 z0 z1 z2 z3 z4 z5 z6 z7 z8 z9 z10 z11 z12 z13
  have hsz : (ba s).size = s.length := rfl
  by_cases hgo : z = 0 ∧ 0 ≤ at' ∧ at' ≤ (s.length : Int) ∧ c.verb ≠ 2
  · obtain ⟨rfl, ha1, ha2, hv2⟩ := hgo
    have HL : Hid (IsLine c s) := by
      rcases hpr with ⟨k1, _⟩ | ⟨_, _, k3⟩
      · exact k1
      · cases k3
    have hsl : s.length ≤ 4096 := HL.out.2.2
    obtain ⟨z0, z1, z2, z3, z4, z5, z6, z7, z8, z9, z10, z11, z12, z13⟩ := HX1.out w2 HB2.out
    have hn1 : ¬ at' < 0 := by omega
    have hn2 : ¬ (s.length : Int) < at' := by omega
    have hn3 : (c.verb == 2) = false := by simpa using hv2
    clear hpr
    obtain ⟨k, rfl⟩ : ∃ k : Nat, at' = (k : Int) := ⟨at'.toNat, by omega⟩
    have hk : k ≤ s.length := by omega
    have HA : Hid (∀ (a : ByteArray) (u : World), Tb u → a.data.toList = s.take k ++ 32 :: s.drop k → Calls Tryz.prog 10 #[.string a] u fun e w' => (∃ d ad nd kd ap np kp z, e = .returned (.tuple #[cmV d (.slice ad nd kd) (.slice ap np kp), .int .i64 z]) ∧ ((Inside s k → c.verb ≠ 5 ∧ c.verb ≠ 8) → z = 230)) ∧ Below u.heap.size u w') := fun a u hu ha => parse_no HR.out _ (by simp; omega) _ (fun hq => no_line HL.out hv2 k hk hq) a ha u hu
    have HE : Hid (∀ (a : ByteArray) (u : World), Tb u → a.data.toList = s ++ [32] → Calls Tryz.prog 10 #[.string a] u fun e w' => (∃ d ad nd kd ap np kp z, e = .returned (.tuple #[cmV d (.slice ad nd kd) (.slice ap np kp), .int .i64 z]) ∧ (True → z = 230)) ∧ Below u.heap.size u w') := fun a u hu ha => parse_no HR.out _ (by simp; omega) _ (fun _ => no_line_end HL.out hv2) a ha u hu
    have HH : Hid (∀ (a : ByteArray) (u : World), Tb u → a.data.toList = 32 :: s → Calls Tryz.prog 10 #[.string a] u fun e w' => (∃ d ad nd kd ap np kp z, e = .returned (.tuple #[cmV d (.slice ad nd kd) (.slice ap np kp), .int .i64 z]) ∧ (True → z = 230)) ∧ Below u.heap.size u w') := fun a u hu ha => parse_no HR.out _ (by simp; omega) _ (fun _ => no_line_head HL.out hv2) a ha u hu
    have hs1 : ∀ u, (Instr.slice 9 (.string (ba s)) none (some (.int .i64 (k : Int))) none).run Tryz.prog u = .ok (.string (ba (s.take k))) u := fun u => by
      rw [run_slice_string_h u (s := ba s) (P := Tryz.prog) (t := 9) Tryz.underlying9 .i64 (k : Int) (by omega) (by rw [hsz]; omega)]
      rw [show ((k : Int)).toNat = k by omega, ba_sub, List.drop_zero]
    have hs2 : ∀ u, (Instr.slice 9 (.string (ba s)) (some (.int .i64 (k : Int))) none none).run Tryz.prog u = .ok (.string (ba (s.drop k))) u := fun u => by
      rw [run_slice_string_l u (s := ba s) (P := Tryz.prog) (t := 9) Tryz.underlying9 .i64 (k : Int) (by omega) (by rw [hsz]; omega)]
      rw [show ((k : Int)).toNat = k by omega, hsz, ba_sub, List.take_length]
    have hbd1 : ¬ 9223372036854775807 < k + 1 := by omega
    have hbd2 : ¬ 9223372036854775807 < k + 1 + (s.length - k) := by omega
    clear HR HWK HW HZ
    go_upto_region 4 with fail
    go_cut [8] (fun v wx => ∃ y, v = .int .i64 y ∧ Hid ((Inside s k → c.verb ≠ 5 ∧ c.verb ≠ 8) → y = 230) ∧ Hid (Below W1.heap.size W1 wx))
    case first =>
      clear HE HH HX1
      refine wp_region_noPanic ?_
      refine Till.start 14 (S := fun u => Below W1.heap.size W1 u) (by kernel_rfl) (HB2.out.drew) (fun hHeld => ?_)
      refine' Till.take 0 rfl (by kernel_rfl) (by kernel_rfl) (by kernel_rfl) (by kernel_rfl) (fun _ _ _ h => h) (Or.inl ⟨by rfl, ?_⟩) (by assumption) ?_
      rotate_left
      · (intro w hSw; (try dsimp only at hSw); go_simp <;> with_reducible rfl)
      try simp only [Act.put, List.setIfInBounds_toArray, List.set_cons_zero, List.set_cons_succ]
      refine' Till.take 1 rfl (by kernel_rfl) (by kernel_rfl) (by kernel_rfl) (by kernel_rfl) (fun _ _ _ h => h) (Or.inl ⟨by rfl, ?_⟩) (by assumption) ?_
      rotate_left
      · (intro w hSw; (try dsimp only at hSw); go_simp <;> with_reducible rfl)
      try simp only [Act.put, List.setIfInBounds_toArray, List.set_cons_zero, List.set_cons_succ]
      refine' Till.take 2 rfl (by kernel_rfl) (by kernel_rfl) (by kernel_rfl) (by kernel_rfl) (fun _ _ _ h => h) (Or.inl ⟨by rfl, ?_⟩) (by assumption) ?_
      rotate_left
      · (intro w hSw; (try dsimp only at hSw); go_simp <;> with_reducible rfl)
      try simp only [Act.put, List.setIfInBounds_toArray, List.set_cons_zero, List.set_cons_succ]
      refine' Till.take 3 rfl (by kernel_rfl) (by kernel_rfl) (by kernel_rfl) (by kernel_rfl) (fun _ _ _ h => h) (Or.inl ⟨by rfl, ?_⟩) (by assumption) ?_
      rotate_left
      · (intro w hSw; (try dsimp only at hSw); go_simp <;> with_reducible rfl)
      try simp only [Act.put, List.setIfInBounds_toArray, List.set_cons_zero, List.set_cons_succ]
      refine' Till.take 4 rfl (by kernel_rfl) (by kernel_rfl) (by kernel_rfl) (by kernel_rfl) (fun _ _ _ h => h) (Or.inl ⟨by rfl, ?_⟩) (by assumption) ?_
      rotate_left
      · (intro w hSw; (try dsimp only at hSw); go_simp <;> with_reducible rfl)
      try simp only [Act.put, List.setIfInBounds_toArray, List.set_cons_zero, List.set_cons_succ]
      refine' Till.take 5 rfl (by kernel_rfl) (by kernel_rfl) (by kernel_rfl) (by kernel_rfl) (fun _ _ _ h => h) (Or.inl ⟨by rfl, ?_⟩) (by assumption) ?_
      rotate_left
      · (intro w hSw; (try dsimp only at hSw); go_simp <;> with_reducible rfl)
      try simp only [Act.put, List.setIfInBounds_toArray, List.set_cons_zero, List.set_cons_succ]
      refine' Till.take 6 rfl (by kernel_rfl) (by kernel_rfl) (by kernel_rfl) (by kernel_rfl) (fun _ _ _ h => h) (Or.inl ⟨by rfl, ?_⟩) (by assumption) ?_
      rotate_left
      · (intro w hSw; (try dsimp only at hSw); go_simp <;> with_reducible rfl)
      try simp only [Act.put, List.setIfInBounds_toArray, List.set_cons_zero, List.set_cons_succ]
      refine' Till.take 7 rfl (by kernel_rfl) (by kernel_rfl) (by kernel_rfl) (by kernel_rfl) (fun _ _ _ h => h) (Or.inl ⟨by rfl, ?_⟩) (by assumption) ?_
      rotate_left
      · (intro w hSw; (try dsimp only at hSw); go_simp <;> with_reducible rfl)
      try simp only [Act.put, List.setIfInBounds_toArray, List.set_cons_zero, List.set_cons_succ]
      refine Till.two 8 12 (by kernel_rfl) rfl rfl (fun K hK => ?_) (fun K hK => ?_)
      · skip
        go_simp
        go_at_call 10
        refine (HA.out _ _ (HTB.out _ (below_on HB1.out hHeld)) (by simp)).mono ?_
        rintro e w5 ⟨⟨d, ad, nd, kd, aq, nq, kq, y5, rfl, hy5⟩, hb5⟩
        have hb5' := Below.trans hHeld (hb5.mono hHeld.size)
        have HY5 := mkH hy5
        clear hb5 hy5
        refine hK.out _ _ ?_ (fun hHeld => ?_)
        · exact hb5'
        clear hK K
        try simp only [Act.put, List.setIfInBounds_toArray, List.set_cons_zero, List.set_cons_succ]
        refine' Till.take 9 rfl (by kernel_rfl) (by kernel_rfl) (by kernel_rfl) (by kernel_rfl) (fun _ _ _ h => h) (Or.inl ⟨by rfl, ?_⟩) (by assumption) ?_
        rotate_left
        · (intro w hSw; (try dsimp only at hSw); go_simp <;> with_reducible rfl)
        try simp only [Act.put, List.setIfInBounds_toArray, List.set_cons_zero, List.set_cons_succ]
        refine' Till.take 10 rfl (by kernel_rfl) (by kernel_rfl) (by kernel_rfl) (by kernel_rfl) (fun _ _ _ h => h) (Or.inl ⟨by rfl, ?_⟩) (by assumption) ?_
        rotate_left
        · (intro w hSw; (try dsimp only at hSw); go_simp <;> with_reducible rfl)
        try simp only [Act.put, List.setIfInBounds_toArray, List.set_cons_zero, List.set_cons_succ]
        refine' Till.take 11 rfl (by kernel_rfl) (by kernel_rfl) (by kernel_rfl) (by kernel_rfl) (fun _ _ _ h => h) (Or.inl ⟨by rfl, ?_⟩) (by assumption) ?_
        rotate_left
        · (intro w hSw; (try dsimp only at hSw); go_simp <;> with_reducible rfl)
        try simp only [Act.put, List.setIfInBounds_toArray, List.set_cons_zero, List.set_cons_succ]
        refine Till.one 12 (by kernel_rfl) rfl (fun K hK => ?_)
        go_simp
        refine hK.out _ _ ?_ (fun hHeld => ?_)
        · exact hb5'.alloc hb5'.size _
        clear hK K
        try simp only [Act.put, List.setIfInBounds_toArray, List.set_cons_zero, List.set_cons_succ]
        refine Till.one 13 (by kernel_rfl) rfl (fun K hK => ?_)
        go_simp
        refine hK.out _ _ ?_ (fun hHeld => ?_)
        · exact hb5'.alloc hb5'.size _
        clear hK K
        try simp only [Act.put, List.setIfInBounds_toArray, List.set_cons_zero, List.set_cons_succ]
        refine Till.last (by kernel_rfl) (by kernel_rfl) rfl (fun K hK => ?_)
        go_simp
        refine hK.out _ _ ?_
        clear hK K
        try simp only [Act.put, List.setIfInBounds_toArray, List.set_cons_zero, List.set_cons_succ]
        refine NoPanic.normal ?_
        have HF := mkH hHeld
        clear hHeld
        go_wp2_with fail
        go_meet
        case rel => exact ⟨y5, rfl, HY5, HF⟩
      · skip
        go_simp
        have hba : Below W1.heap.size W1 (w2.drew.alloc (.cells #[.int .i64 0, .int .i64 0, .int .u32 0, .int .i64 0, .string ⟨#[]⟩, .string ⟨#[]⟩, .string ⟨#[]⟩, .int .i64 0, .int .i64 0, .int .i64 0, .int .i64 0, .slice none 0 0, .int .i64 0, .slice none 0 0] 28)) := hHeld.alloc hHeld.size _
        have hx7 : Bx w2.drew (w2.drew.alloc (.cells #[.int .i64 0, .int .i64 0, .int .u32 0, .int .i64 0, .string ⟨#[]⟩, .string ⟨#[]⟩, .string ⟨#[]⟩, .int .i64 0, .int .i64 0, .int .i64 0, .int .i64 0, .slice none 0 0, .int .i64 0, .slice none 0 0] 28)) w2.heap.size (cmA Cm.zero (.slice none 0 0) (.slice none 0 0)).toList := Bx.new (Nat.le_refl _) (cmA Cm.zero (.slice none 0 0) (.slice none 0 0)).toList 28
        refine hK.out _ _ ?_ (fun hHeld => ?_)
        · exact hba
        clear hK K
        try simp only [Act.put, List.setIfInBounds_toArray, List.set_cons_zero, List.set_cons_succ]
        refine Till.one 8 (by kernel_rfl) rfl (fun K hK => ?_)
        go_simp
        go_at_call 10
        refine (HA.out _ _ (HTB.out _ (below_on HB1.out hHeld)) (by simp)).mono ?_
        rintro e w5 ⟨⟨d, ad, nd, kd, aq, nq, kq, y5, rfl, hy5⟩, hb5⟩
        have hb5' := Below.trans hHeld (hb5.mono hHeld.size)
        have HY5 := mkH hy5
        have HX7 := mkH (hx7.later hb5)
        clear hb5 hy5 hx7 hba
        refine hK.out _ _ ?_ (fun hHeld => ?_)
        · exact hb5'
        clear hK K
        try simp only [Act.put, List.setIfInBounds_toArray, List.set_cons_zero, List.set_cons_succ]
        refine' Till.take 9 rfl (by kernel_rfl) (by kernel_rfl) (by kernel_rfl) (by kernel_rfl) (fun _ _ _ h => h) (Or.inl ⟨by rfl, ?_⟩) (by assumption) ?_
        rotate_left
        · (intro w hSw; (try dsimp only at hSw); go_simp <;> with_reducible rfl)
        try simp only [Act.put, List.setIfInBounds_toArray, List.set_cons_zero, List.set_cons_succ]
        refine' Till.take 10 rfl (by kernel_rfl) (by kernel_rfl) (by kernel_rfl) (by kernel_rfl) (fun _ _ _ h => h) (Or.inl ⟨by rfl, ?_⟩) (by assumption) ?_
        rotate_left
        · (intro w hSw; (try dsimp only at hSw); go_simp <;> with_reducible rfl)
        try simp only [Act.put, List.setIfInBounds_toArray, List.set_cons_zero, List.set_cons_succ]
        refine' Till.take 11 rfl (by kernel_rfl) (by kernel_rfl) (by kernel_rfl) (by kernel_rfl) (fun _ _ _ h => h) (Or.inl ⟨by rfl, ?_⟩) (by assumption) ?_
        rotate_left
        · (intro w hSw; (try dsimp only at hSw); go_simp <;> with_reducible rfl)
        try simp only [Act.put, List.setIfInBounds_toArray, List.set_cons_zero, List.set_cons_succ]
        obtain ⟨b0, b1, b2, b3, b4, b5, b6, b7, b8, b9, b10, b11, b12, b13⟩ := Bx.cmd (c := Cm.zero) HX7.out
        have f0 := HX7.out.fz 0 (by simp)
        have f1 := HX7.out.fz 1 (by simp)
        have f2 := HX7.out.fz 2 (by simp)
        have f3 := HX7.out.fz 3 (by simp)
        have f4 := HX7.out.fz 4 (by simp)
        have f5 := HX7.out.fz 5 (by simp)
        have f6 := HX7.out.fz 6 (by simp)
        have f7 := HX7.out.fz 7 (by simp)
        have f8 := HX7.out.fz 8 (by simp)
        have f9 := HX7.out.fz 9 (by simp)
        have f10 := HX7.out.fz 10 (by simp)
        have f11 := HX7.out.fz 11 (by simp)
        have f12 := HX7.out.fz 12 (by simp)
        have f13 := HX7.out.fz 13 (by simp)
        refine Till.one 13 (by kernel_rfl) rfl (fun K hK => ?_)
        go_simp
        have hp7 := Bx.putCm (W := W1) (c0 := Cm.zero) (v0 := .slice none 0 0) (w0 := .slice none 0 0) ⟨HX7.out.c, HX7.out.fz, HB2.out.size, HX7.out.lt⟩ hb5' d (.slice ad nd kd) (.slice aq nq kq)
        refine hK.out _ _ ?_ (fun hHeld => ?_)
        · exact hp7.2.1
        clear hK K
        try simp only [Act.put, List.setIfInBounds_toArray, List.set_cons_zero, List.set_cons_succ]
        refine Till.last (by kernel_rfl) (by kernel_rfl) rfl (fun K hK => ?_)
        go_simp
        refine hK.out _ _ ?_
        clear hK K
        try simp only [Act.put, List.setIfInBounds_toArray, List.set_cons_zero, List.set_cons_succ]
        refine NoPanic.normal ?_
        have HF := mkH hHeld
        clear hHeld
        go_wp2_with fail
        go_meet
        case rel => exact ⟨y5, rfl, HY5, HF⟩
    case rest =>
      obtain ⟨y, rfl, HY, HB4⟩ := hcut
      have hbd3 : ¬ 9223372036854775807 < s.length + 1 := by omega
      have hbd4 : ¬ 9223372036854775807 < 1 + s.length := by omega
      clear HA hs1 hs2 hbd1 hbd2 z0 z1 z2 z3 z4 z5 z6 z7 z8 z9 z10 z11 z12 z13
      go_wp2_with fail
      refine (HE.out _ _ (HTB.out _ (below_on HB1.out HB4.out)) (by simp)).mono ?_
      rintro e w6 ⟨⟨d6, ad6, nd6, kd6, ap6, np6, kp6, y6, rfl, hy6⟩, hb6⟩
      obtain rfl := hy6 trivial
      have HB6 : Hid (Below W1.heap.size W1 w6) := below_on HB4.out hb6
      clear hb6 HE hy6 HB4
      go_wp2_with fail
      refine (HH.out _ _ (HTB.out _ (below_on HB1.out (HB6.out.alloc HB6.out.size _))) (by simp)).mono ?_
      rintro e w7 ⟨⟨d7, ad7, nd7, kd7, ap7, np7, kp7, y7, rfl, hy7⟩, hb7⟩
      obtain rfl := hy7 trivial
      have HB7 : Hid (Below W1.heap.size W1 w7) := Below.trans (HB6.out.alloc HB6.out.size _) (hb7.mono (Nat.le_trans HB6.out.size (by simp)))
      clear hb7 HH hy7 HB6
      go_upto_region 7 with fail
      go_cut [13] (fun v wx => v = .bool (insB s k) ∧ Hid (Below W1.heap.size W1 wx))
      case first =>
        have hkb : ∀ j, j < s.length → ∀ u, (Instr.index 9 (.string (ba s)) (.int .i64 (j : Int))).run Tryz.prog u = .ok (.int .u8 ((s.getD j 32).toNat : Int)) u := fun j hj u => by
          rw [run_index_string u 9 (ba s) .i64 _ Tryz.underlying9, dif_pos ⟨by omega, by rw [hsz]; omega⟩]
          have : ((j : Int)).toNat = j := by omega
          have hjb : j < (ba s).size := by rw [hsz]; exact hj
          have hg : s.getD j 32 = s.getD j 0 := by rw [List.getD_eq_getElem?_getD, List.getD_eq_getElem?_getD, List.getElem?_eq_getElem hj]; rfl
          simp only [this, ba_get hjb, hg]
        have HIB : Hid (insB s k = (decide (0 < k) && decide (k < s.length) && !(s.getD (k - 1) 32 == 32) && !(s.getD k 32 == 32))) := rfl
        by_cases hk0 : 0 < k
        · have hk0i : (0 : Int) < (k : Int) := by omega
          by_cases hkl : k < s.length
          · have hkli : (k : Int) < (s.length : Int) := by omega
            have ix1 := hkb (k - 1) (by omega)
            have ix2 := hkb k hkl
            rw [show (((k - 1 : Nat) : Nat) : Int) = (k : Int) - 1 by omega] at ix1
            have hwk : IntKind.i64.wrap ((k : Int) - 1) = (k : Int) - 1 := by rw [IntKind.wrap_i64]; omega
            generalize s.getD (k - 1) 32 = x1 at *
            generalize s.getD k 32 = x2 at *
            clear hkb
            have hx1 : ((x1.toNat : Int) != 32) = !(x1 == 32) := by rw [bne, show ((x1.toNat : Int) == 32) = (x1 == 32) from u8_beq x1 32]
            have hx2 : ((x2.toNat : Int) != 32) = !(x2 == 32) := by rw [bne, show ((x2.toNat : Int) == 32) = (x2 == 32) from u8_beq x2 32]
            generalize (x1 == 32) = c1 at *
            generalize (x2 == 32) = c2 at *
            generalize (x1.toNat : Int) = y1 at *
            generalize (x2.toNat : Int) = y2 at *
            cases c1 <;> cases c2 <;> simp only [Bool.not_false, Bool.not_true] at hx1 hx2
            all_goals
              go_wp2_with fail
              go_meet
              case rel => exact ⟨by rw [HIB.out]; simp [hk0, hkl], mkH (HB7.out.alloc HB7.out.size _)⟩
          · have hkli : ¬ (k : Int) < (s.length : Int) := by omega
            clear hkb
            go_wp2_with fail
            go_meet
            case rel => exact ⟨by rw [HIB.out]; simp [hkl], mkH (HB7.out.alloc HB7.out.size _)⟩
        · have hk0i : ¬ (0 : Int) < (k : Int) := by omega
          clear hkb
          go_wp2_with fail
          go_meet
          case rel => exact ⟨by rw [HIB.out]; simp [hk0], mkH (HB7.out.alloc HB7.out.size _)⟩
      case rest =>
        obtain ⟨rfl, HB8⟩ := hcut
        obtain ⟨z0, z1, z2, z3, z4, z5, z6, z7, z8, z9, z10, z11, z12, z13⟩ := HX1.out wc HB8.out
        have HBF : Hid (Below w.heap.size w wc) := below_on HB1.out HB8.out
        have hcase : (insB s k = false ∧ y = 230) ∨ (insB s k = true ∧ (c.verb == 5) = true) ∨ (insB s k = true ∧ (c.verb == 5) = false ∧ (c.verb == 8) = true) ∨ (insB s k = true ∧ (c.verb == 5) = false ∧ (c.verb == 8) = false ∧ y = 230) := by
          by_cases hi : Inside s k
          · have hb := (insB_iff s k).2 hi
            by_cases h5 : c.verb = 5
            · exact .inr (.inl ⟨hb, by simpa using h5⟩)
            · by_cases h8 : c.verb = 8
              · exact .inr (.inr (.inl ⟨hb, by simpa using h5, by simpa using h8⟩))
              · exact .inr (.inr (.inr ⟨hb, by simpa using h5, by simpa using h8, HY.out (fun _ => ⟨h5, h8⟩)⟩))
          · refine .inl ⟨?_, HY.out (fun h => absurd h hi)⟩
            cases hb : insB s k with
            | true => exact absurd ((insB_iff s k).1 hb) hi
            | false => rfl
        clear HY HX1 HB8
        generalize insB s k = ib at *
        rcases hcase with ⟨rfl, rfl⟩ | ⟨rfl, hv5⟩ | ⟨rfl, hv5, hv8⟩ | ⟨rfl, hv5, hv8, rfl⟩
        all_goals
          go_wp2
          go_ret
          exact ⟨rfl, HBF.out⟩
  · have hcase : z = 230 ∨ (z = 0 ∧ at' < 0) ∨ (z = 0 ∧ ¬ at' < 0 ∧ (s.length : Int) < at') ∨ (z = 0 ∧ ¬ at' < 0 ∧ ¬ (s.length : Int) < at' ∧ (c.verb == 2) = true) := by
      rcases hpr with ⟨_, k2⟩ | ⟨_, _, k3⟩
      · subst k2
        by_cases h1 : at' < 0
        · exact .inr (.inl ⟨rfl, h1⟩)
        · by_cases h2 : (s.length : Int) < at'
          · exact .inr (.inr (.inl ⟨rfl, h1, h2⟩))
          · refine .inr (.inr (.inr ⟨rfl, h1, h2, ?_⟩))
            by_cases h3 : c.verb = 2
            · simpa using h3
            · exact absurd ⟨rfl, by omega, by omega, h3⟩ hgo
      · exact .inl k3
    have HW2 := mkH (HWK.out)
    clear HWK hgo hpr HW HZ HR
    obtain ⟨z0, z1, z2, z3, z4, z5, z6, z7, z8, z9, z10, z11, z12, z13⟩ := HX1.out w2 HB2.out
    clear HX1
    rcases hcase with rfl | ⟨rfl, q1⟩ | ⟨rfl, q1, q2⟩ | ⟨rfl, q1, q2, q3⟩
    all_goals
      go_wp2_with fail
      refine (HW2.out _ (HTB.out _ (below_on HB1.out HB2.out))).mono ?_
      rintro e w3 ⟨rfl, hb3⟩
      have HBF : Hid (Below w.heap.size w w3) := below_on HB1.out (below_on HB2.out hb3)
      clear hb3 HW2
      go_wp2
      go_ret
      exact ⟨rfl, HBF.out⟩
end Go.Proofs.YtlnppgjppfkocaaGreatDoor.Xs
