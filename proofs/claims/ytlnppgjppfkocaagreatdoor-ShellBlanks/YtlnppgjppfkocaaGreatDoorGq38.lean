import Derived.Test.YtlnppgjppfkocaaGreatDoorGq37
import Derived.Test.YtlnppgjppfkocaaGreatDoorGq13
/-! The program's Print. -/
namespace Go.Proofs.YtlnppgjppfkocaaGreatDoor.Xs
open Go.RowKit Plain
set_option linter.unusedVariables false
set_option linter.unusedSimpArgs false

theorem row_word {n : Int} (h : 0 ≤ n ∧ n < 11) : (rowV n).word = verbT n := by
  have key : ∀ i : Fin 11, (vrL.getD i.val Vr.zero).word = verbT (i.val : Int) := by decide +kernel
  have := key ⟨n.toNat, by omega⟩
  simp only at this
  unfold rowV
  rw [if_pos h, this, show ((n.toNat : Nat) : Int) = n by omega]
theorem arg_most {c : Cm} (ok : OkC c) (hw : WfC c) (hrl : c.raw.length ≤ 4096) : ∀ x ∈ argsL c, x.length ≤ 10000 := by
  have hi : ∀ n, I64 n → (Lib.itoa n).length ≤ 10000 := fun n hn => by have := itoa_len hn.1 hn.2; omega
  intro x hx
  unfold argsL at hx
  split at hx
  · rw [List.mem_singleton.1 hx]; exact hi _ hw.conn
  · split at hx
    case isTrue h2 =>
      have hq := ok.say h2
      rcases List.mem_cons.1 hx with e | hx
      · rw [e]; exact hi _ hw.conn
      · rcases List.mem_cons.1 hx with e | hx
        · rw [e]; exact hi _ ⟨by have := hw.req.id1; omega, by have := hw.req.id2; omega⟩
        · rcases List.mem_cons.1 hx with e | hx
          · rw [e]; have := op_len c.req.op hw.req.op; omega
          · obtain ⟨u, _, e⟩ := List.mem_map.1 hx
            rw [← e]
            have k1 := txt_len c.req.topic
            have k2 := txt_len c.req.key
            have k3 := txt_len c.req.value
            have := hq.topic
            have := hq.key
            have := hq.value
            unfold fldT
            split
            · omega
            · split
              · omega
              · split
                · omega
                · split
                  · exact hi _ hw.req.offset
                  · split
                    · exact hi _ hw.req.number
                    · split
                      · exact hi _ hw.req.pid
                      · split
                        · exact hi _ hw.req.seq
                        · simp
    case isFalse h2 =>
      split at hx
      · rcases List.mem_cons.1 hx with e | hx
        · rw [e]; exact hi _ hw.conn
        · rw [List.mem_singleton.1 hx]; have := raw_len2 c.raw; omega
      · split at hx
        · rw [List.mem_singleton.1 hx]; exact hi _ hw.n
        · split at hx
          · obtain ⟨u, hu, e⟩ := List.mem_map.1 hx
            rw [← e]; exact hi _ (hw.picks u hu)
          · split at hx
            · rcases List.mem_cons.1 hx with e | hx
              · rw [e]; exact hi _ hw.conn
              · rw [List.mem_singleton.1 hx]; exact hi _ hw.n
            · cases hx
theorem line_most {c : Cm} (ok : OkC c) (hw : WfC c) (hrl : c.raw.length ≤ 4096) (hal : (argsL c).length ≤ 1000000) : (lineL c).length ≤ 20000000000 := by
  have h1 := sp_most (argsL c) (arg_most ok hw hrl)
  have h2 : (verbT c.verb).length ≤ 6 := by
    have key : ∀ i : Fin 11, (verbT (i.val : Int)).length ≤ 6 := by decide +kernel
    have := key ⟨c.verb.toNat, by have := ok.v1; have := ok.v2; omega⟩
    simp only at this
    rwa [show ((c.verb.toNat : Nat) : Int) = c.verb by have := ok.v1; omega] at this
  unfold lineL
  rw [join_sp, List.length_append]
  have h3 : (argsL c).length * (10000 + 1) ≤ 1000000 * (10000 + 1) := Nat.mul_le_mul_right _ hal
  omega
theorem callBody {f : FuncId} {fn : Func} (hf : Tryz.prog.funcs[f]? = some fn) (hname : (fn.name == "runtime.NumGoroutine") = false) (hb : fn.body.isSome = true) (args : Array Value) (w : World) :
    (callFunc f args).run Tryz.prog w = .ok (.enter f args) w := by
  obtain ⟨c, hc⟩ := Option.isSome_iff_exists.1 hb
  have h1 : fn.name ≠ "runtime.NumGoroutine" := by simpa using hname
  simp [callFunc, hf, h1, hc]
theorem call_row {n : Int} (h : 0 ≤ n ∧ n < 11) : (∀ args w, (callFunc (rowV n).wf args).run Tryz.prog w = .ok (.enter (rowV n).wf args) w) ∧ (∀ args w, (callFunc (rowV n).rf args).run Tryz.prog w = .ok (.enter (rowV n).rf args) w) := by
  have hrow : rowV n = vrL.getD n.toNat Vr.zero := by unfold rowV; rw [if_pos h]
  have hv : n = 0 ∨ n = 1 ∨ n = 2 ∨ n = 3 ∨ n = 4 ∨ n = 5 ∨ n = 6 ∨ n = 7 ∨ n = 8 ∨ n = 9 ∨ n = 10 := by omega
  rw [hrow]
  rcases hv with e | e | e | e | e | e | e | e | e | e | e <;> subst e
  · exact ⟨callBody Tryz.func62 (by kernel_rfl) (by kernel_rfl), callBody Tryz.func63 (by kernel_rfl) (by kernel_rfl)⟩
  · exact ⟨callBody Tryz.func62 (by kernel_rfl) (by kernel_rfl), callBody Tryz.func63 (by kernel_rfl) (by kernel_rfl)⟩
  · exact ⟨callBody Tryz.func64 (by kernel_rfl) (by kernel_rfl), callBody Tryz.func65 (by kernel_rfl) (by kernel_rfl)⟩
  · exact ⟨callBody Tryz.func66 (by kernel_rfl) (by kernel_rfl), callBody Tryz.func67 (by kernel_rfl) (by kernel_rfl)⟩
  · exact ⟨callBody Tryz.func68 (by kernel_rfl) (by kernel_rfl), callBody Tryz.func69 (by kernel_rfl) (by kernel_rfl)⟩
  · exact ⟨callBody Tryz.func70 (by kernel_rfl) (by kernel_rfl), callBody Tryz.func71 (by kernel_rfl) (by kernel_rfl)⟩
  · exact ⟨callBody Tryz.func72 (by kernel_rfl) (by kernel_rfl), callBody Tryz.func73 (by kernel_rfl) (by kernel_rfl)⟩
  · exact ⟨callBody Tryz.func68 (by kernel_rfl) (by kernel_rfl), callBody Tryz.func69 (by kernel_rfl) (by kernel_rfl)⟩
  · exact ⟨callBody Tryz.func70 (by kernel_rfl) (by kernel_rfl), callBody Tryz.func71 (by kernel_rfl) (by kernel_rfl)⟩
  · exact ⟨callBody Tryz.func74 (by kernel_rfl) (by kernel_rfl), callBody Tryz.func75 (by kernel_rfl) (by kernel_rfl)⟩
  · exact ⟨callBody Tryz.func74 (by kernel_rfl) (by kernel_rfl), callBody Tryz.func75 (by kernel_rfl) (by kernel_rfl)⟩
/-- What the row's function writes. -/
theorem writeOf (c : Cm) (ar ap : Option Addr) (cr cp : Nat) (W : World) (hO : OpsAt W) (hT : Tab W) (hr : ∀ u, Below W.heap.size W u → BysAt u (.slice ar c.raw.length cr) c.raw) (hp : ∀ u, Below W.heap.size W u → PksAt u (.slice ap c.picks.length cp) c.picks) (hw : WfC c) (ok : OkC c) (hrl : c.raw.length ≤ 4096) (hpl : c.picks.length ≤ 4096)
    (P : Nat → Prop) (u : World) (g : Nat) (l : List By) (h : Wr P W u g l) (hl : l.length ≤ 1000) :
    Calls Tryz.prog (rowV c.verb).wf #[.pointer (some ⟨g, 0, none⟩), cmV c (.slice ar c.raw.length cr) (.slice ap c.picks.length cp)] u fun e w' => e = .returned (.tuple #[]) ∧ Wr P W w' g (l ++ argsL c) ∧ Kp P u w' := by
  have h0 := ok.v1
  have h1 := ok.v2
  have hrow : rowV c.verb = vrL.getD c.verb.toNat Vr.zero := by unfold rowV; rw [if_pos ⟨h0, h1⟩]
  have hv : c.verb = 0 ∨ c.verb = 1 ∨ c.verb = 2 ∨ c.verb = 3 ∨ c.verb = 4 ∨ c.verb = 5 ∨ c.verb = 6 ∨ c.verb = 7 ∨ c.verb = 8 ∨ c.verb = 9 ∨ c.verb = 10 := by omega
  have hA : ∀ A, argsL c = A → (l ++ argsL c) = l ++ A := fun A e => by rw [e]
  rw [hrow]
  rcases hv with e | e | e | e | e | e | e | e | e | e | e
  · rw [hA [Lib.itoa c.conn] (by unfold argsL; rw [if_pos (.inl e)]), e]
    exact wConnOf c _ _ hw.conn 1000 (by omega) P W u g l hT h hl
  · rw [hA [Lib.itoa c.conn] (by unfold argsL; rw [if_pos (.inr e)]), e]
    exact wConnOf c _ _ hw.conn 1000 (by omega) P W u g l hT h hl
  · have hq := ok.say e
    rw [hA _ (by unfold argsL; rw [if_neg (by omega), if_pos e]), e]
    exact wSayOf c _ _ hw hq.op1 hq.op2 (by have := hq.topic; omega) (by have := hq.key; omega) (by have := hq.value; omega) P W u g l hT hO h hl
  · rw [hA [Lib.itoa c.conn, rawT c.raw] (by unfold argsL; rw [if_neg (by omega), if_neg (by omega), if_pos e]), e]
    exact wRawOf c _ _ hw.conn P W u g l hT hr (by omega) h hl
  · rw [hA [Lib.itoa c.n] (by unfold argsL; rw [if_neg (by omega), if_neg (by omega), if_neg (by omega), if_pos (.inl e)]), e]
    exact wNOf c _ _ hw.n 1000 (by omega) P W u g l hT h hl
  · rw [hA (c.picks.map Lib.itoa) (by unfold argsL; rw [if_neg (by omega), if_neg (by omega), if_neg (by omega), if_neg (by omega), if_pos (.inl e)]), e]
    exact wPicksOf c _ _ hw.picks (by omega) P W u g l hT hp h (by omega)
  · rw [hA [Lib.itoa c.conn, Lib.itoa c.n] (by unfold argsL; rw [if_neg (by omega), if_neg (by omega), if_neg (by omega), if_neg (by omega), if_neg (by omega), if_pos e]), e]
    exact wTakeOf c _ _ hw.conn hw.n 1000 (by omega) P W u g l hT h hl
  · rw [hA [Lib.itoa c.n] (by unfold argsL; rw [if_neg (by omega), if_neg (by omega), if_neg (by omega), if_pos (.inr e)]), e]
    exact wNOf c _ _ hw.n 1000 (by omega) P W u g l hT h hl
  · rw [hA (c.picks.map Lib.itoa) (by unfold argsL; rw [if_neg (by omega), if_neg (by omega), if_neg (by omega), if_neg (by omega), if_pos (.inr e)]), e]
    exact wPicksOf c _ _ hw.picks (by omega) P W u g l hT hp h (by omega)
  · rw [hA [] (by unfold argsL; rw [if_neg (by omega), if_neg (by omega), if_neg (by omega), if_neg (by omega), if_neg (by omega), if_neg (by omega)]), e]
    exact wNoneOf 1000 c _ _ P W u g l hT h hl
  · rw [hA [] (by unfold argsL; rw [if_neg (by omega), if_neg (by omega), if_neg (by omega), if_neg (by omega), if_neg (by omega), if_neg (by omega)]), e]
    exact wNoneOf 1000 c _ _ P W u g l hT h hl
set_option maxHeartbeats 32000000 in
set_option maxRecDepth 100000 in
theorem printQ (c : Cm) (vr vp : Value) (w : World) (hO : OpsAt w) (hT : Tab w) (hr : BysAt w vr c.raw) (hp : PksAt w vp c.picks) (hw : WfC c) (hz : SzC c) :
    Calls Tryz.prog 8 #[cmV c vr vp] w fun e w' => (∃ l z, e = .returned (.tuple #[.string (ba l), .int .i64 z]) ∧ PriA c l z) ∧ Below w.heap.size w w' := by
  have hx := cmBox w c vr vp 28
  obtain ⟨W1, hW1⟩ : ∃ W1, w.alloc (.cells (cmA c vr vp) 28) = W1 := ⟨_, rfl⟩
  rw [hW1] at hx
  obtain ⟨hbel, hcm⟩ := hx
  have HB1 := mkW hbel
  have HCM : Hid (∀ u, Below W1.heap.size W1 u → CmAt u w.heap.size c vr vp) := fun u hu => hcm.later hu
  have HVO := mkW (verbOfOf c.verb W1)
  have HOP : Hid (∀ u, Below w.heap.size w u → OpsAt u) := fun u hu => hO.later hu
  have HTB : Hid (∀ u, Below w.heap.size w u → Tab u) := fun u hu => hT.later hu
  have HRW : Hid (∀ u, Below w.heap.size w u → BysAt u vr c.raw) := fun u hu => hr.later hu
  have HPK : Hid (∀ u, Below w.heap.size w u → PksAt u vp c.picks) := fun u hu => hp.later hu
  obtain ⟨ar, cr, rfl, hr1, hr2, hr3⟩ := hr
  obtain ⟨ap, cp, rfl, hp1, hp2, hp3⟩ := hp
  have HFO : Hid (∀ v u, Below w.heap.size w u → Calls Tryz.prog 21 #[vrV v, cmV c (.slice ar c.raw.length cr) (.slice ap c.picks.length cp)] u fun e w' => e = .returned (.bool (fitsV v c)) ∧ Below u.heap.size u w') := fun v u hu => fitsOf v c ar ap cr cp u (HOP.out u hu) hz.topic hz.key hz.value
  obtain ⟨z0, z1, z2, z3, z4, z5, z6, z7, z8, z9, z10, z11, z12, z13⟩ := hcm
  have hX0l := cell_lt z0
  simp only at hX0l
  obtain ⟨X0, hX0⟩ : ∃ X, w.heap.size = X := ⟨_, rfl⟩
  rw [hX0] at HCM z0 z1 z2 z3 z4 z5 z6 z7 z8 z9 z10 z11 z12 z13 hX0l
  clear hbel hO hT hr3 hp3
  by_cases hv : 0 ≤ c.verb ∧ c.verb < 11
  · have HFI := mkW (fits_iff c hv.1 hv.2)
    rw [if_pos hv, show decide (0 ≤ c.verb ∧ c.verb < 11) = true from decide_eq_true hv] at HVO
    obtain ⟨v, hvr⟩ : ∃ v, rowV c.verb = v := ⟨_, rfl⟩
    rw [hvr] at HVO HFI
    go_enter Tryz.func8, Tryz.ntmps8
    go_wp2_with fail
    refine HVO.out.mono ?_
    rintro e w2 ⟨rfl, hb2⟩
    have HB2 := mkW hb2
    obtain ⟨w3, hw3⟩ : ∃ w3, w2.alloc (.cells #[.string (ba v.word), .int .i64 v.uses, .int .i64 v.least, .int .i64 v.most, .func (.func v.wf) #[] #[], .func (.func v.rf) #[] #[]] 51) = w3 := ⟨_, rfl⟩
    have hvb := vrBox w2 v 51
    rw [hw3] at hvb
    have HB3 : Hid (Below w.heap.size w w3) := below_on HB1.out (below_on HB2.out hvb.1)
    have HCM3 : Hid (∀ u, Below w3.heap.size w3 u → CmAt u X0 c (.slice ar c.raw.length cr) (.slice ap c.picks.length cp)) := fun u hu => (HCM.out w3 (below_on HB2.out hvb.1)).later hu
    have HVR : Hid (∀ u, Below w3.heap.size w3 u → VrAt u w2.heap.size 0 v) := fun u hu => hvb.2.later hu
    obtain ⟨y0, y1, y2, y3, y4, y5, y6, y7, y8, y9, y10, y11, y12, y13⟩ := HCM3.out w3 (Below.refl _ _)
    obtain ⟨v0, v1, v2, v3, v4, v5⟩ := HVR.out w3 (Below.refl _ _)
    have hs1 : X0 < w2.heap.size := Nat.lt_of_lt_of_le hX0l hb2.size
    have hs3 : w2.heap.size < w3.heap.size := cell_lt v0
    have HFO2 := mkW (HFO.out v w3 HB3.out)
    obtain ⟨X1, hX1⟩ : ∃ X, w2.heap.size = X := ⟨_, rfl⟩
    rw [hX1] at HVR v0 v1 v2 v3 v4 v5 hs1 hs3
    clear hb2 HVO z0 z1 z2 z3 z4 z5 z6 z7 z8 z9 z10 z11 z12 z13 hvb HCM HFO
    cases hf : fitsV v c with
    | false =>
      have hno : ¬ (OkC c ∧ (lineL c).length ≤ 4096) := fun ⟨h1, h2⟩ => by
        have := line_raw h1
        have := HFI.out.2 ⟨h1, by omega, by omega⟩
        rw [hf] at this
        cases this
      rw [hf] at HFO2
      have HPN := mkW (pri_none hno)
      clear hf HFI hno
      go_wp2_with (go_at_call 21; refine HFO2.out.mono ?_; rintro e w4 ⟨rfl, hb4⟩)
      have HB4 := mkW (below_on HB3.out hb4)
      clear hb4
      go_wp2
      go_ret2
      exact ⟨⟨[], 230, rfl, HPN.out⟩, HB4.out⟩
    | true =>
      obtain ⟨hok, hrl, hpl⟩ := HFI.out.1 hf
      rw [hf] at HFO2
      have HOK := mkW hok
      clear hf HFI hok
      have HWo := mkW (row_word hv)
      rw [hvr] at HWo
      have HCF := mkW (call_row hv).1
      rw [hvr] at HCF
      have HWR : Hid (∀ P u g l, Wr P w u g l → l.length ≤ 1000 → Calls Tryz.prog v.wf #[.pointer (some ⟨g, 0, none⟩), cmV c (.slice ar c.raw.length cr) (.slice ap c.picks.length cp)] u fun e w' => e = .returned (.tuple #[]) ∧ Wr P w w' g (l ++ argsL c) ∧ Kp P u w') := fun P u g l h hl => by
        rw [← hvr]
        exact writeOf c ar ap cr cp w (HOP.out w (Below.refl _ _)) (HTB.out w (Below.refl _ _)) HRW.out HPK.out hw HOK.out hrl hpl P u g l h hl
      go_wp2_with fail
      refine HFO2.out.mono ?_
      rintro e w4 ⟨rfl, hb4⟩
      obtain ⟨w5, hw5⟩ : ∃ w5, w4.alloc (.cells #[.slice none 0 0] 56) = w5 := ⟨_, rfl⟩
      have hb5 : Below w4.heap.size w4 w5 := by rw [← hw5]; exact (Below.refl _ _).alloc (Nat.le_refl _) _
      have hb45 := below_on hb4 hb5
      have hsz := hb4.size
      have hsz5 : w5.heap.size = w4.heap.size + 1 := by rw [← hw5]; simp
      have hsw := HB3.out.size
      have HW5 : Hid (Wr (fun b => b = X0 ∨ b = X1) w w5 w4.heap.size []) := by
        have hf : w5.frozen? ⟨w4.heap.size, 0, none⟩ = false := by rw [← hw5]; exact World.frozen?_alloc_at _ _ _ _ rfl
        have hc : w5.cell? ⟨w4.heap.size, 0, none⟩ = some (.slice none 0 0) := by rw [← hw5, World.cell?_alloc_at _ _ _ _ rfl]; rfl
        exact ⟨⟨_, none, hc, hf, OwnV.nil _, by simp, by simp⟩, by omega, by omega, below_on HB3.out hb45, fun b e => by rcases e with e | e <;> omega⟩
      have HZ : Hid (∀ u, Kp (fun b => b = X0 ∨ b = X1) w5 u → CmAt u X0 c (.slice ar c.raw.length cr) (.slice ap c.picks.length cp) ∧ VrAt u X1 0 v) := fun u hu => ⟨(HCM3.out w5 hb45).kp hu (.inl rfl), by
        have q := HVR.out w5 hb45
        exact ⟨(hu.cell (.inr rfl)).trans q.c0, (hu.cell (.inr rfl)).trans q.c1, (hu.cell (.inr rfl)).trans q.c2, (hu.cell (.inr rfl)).trans q.c3, (hu.cell (.inr rfl)).trans q.c4, (hu.cell (.inr rfl)).trans q.c5⟩⟩
      obtain ⟨g, hg⟩ : ∃ g, w4.heap.size = g := ⟨_, rfl⟩
      have x0 := (HZ.out w5 (Kp.refl _ _)).2.c0
      rw [hg] at HW5
      have HC1 : Hid (Calls Tryz.prog 22 #[.pointer (some ⟨g, 0, none⟩), .string (ba v.word)] w5 fun e w' => e = .returned (.tuple #[]) ∧ Wr (fun b => b = X0 ∨ b = X1) w w' g ([] ++ [v.word]) ∧ Kp (fun b => b = X0 ∨ b = X1) w5 w') := wordOf _ _ w _ g [] HW5.out (by simp)
      clear hb4 hb5 hb45 hsz hsz5 hsw HW5 y0 y1 y2 y3 y4 y5 y6 y7 y8 y9 y10 y11 y12 y13 v0 v1 v2 v3 v4 v5 HFO2 hvr
      go_wp2_with fail
      refine HC1.out.mono ?_
      rintro e w6 ⟨rfl, hw6, hk6⟩
      have HW6 := mkW hw6
      have HK6 := mkW hk6
      obtain ⟨⟨y0, y1, y2, y3, y4, y5, y6, y7, y8, y9, y10, y11, y12, y13⟩, v0, v1, v2, v3, v4, v5⟩ := HZ.out w6 hk6
      clear hw6 hk6 HC1 x0
      have hcf := HCF.out
      go_wp2_with fail
      have hL1 : ([] ++ [v.word] : List By).length ≤ 1000 := by simp
      refine (HWR.out _ _ g _ HW6.out hL1).mono ?_
      rintro e w7 ⟨rfl, hw7, hk7⟩
      have HW7 := mkW hw7
      clear hcf y0 y1 y2 y3 y4 y5 y6 y7 y8 y9 y10 y11 y12 y13 v0 v1 v2 v3 v4 v5 HWR hL1 hk7
      have hal : (argsL c).length ≤ 1000000 := by
        have h1 := sp_len (argsL c)
        have h2 : c.picks.length ≤ 4096 := hpl
        unfold argsL
        split
        · simp
        · split
          · have : (fldL c.req.op).length ≤ 10 := by
              unfold fldL
              repeat (split; · simp)
              simp
            simp; omega
          · split
            · simp
            · split
              · simp
              · split
                · simp; omega
                · split <;> simp
      have hlm := line_most HOK.out hw hrl hal
      have HLL : Hid (joinL v.word (argsL c) = lineL c) := by unfold Hid lineL; rw [HWo.out]
      have HLN : Hid (∀ u, Wr (fun b => b = X0 ∨ b = X1) w u g ([] ++ [v.word] ++ argsL c) → Calls Tryz.prog 23 #[.pointer (some ⟨g, 0, none⟩)] u fun e w' => e = .returned (.string (ba (lineL c))) ∧ Below u.heap.size u w') := fun u hu => by
        rw [← HLL.out]
        exact lineOf v.word (argsL c) _ w u g hu (by simp; omega) (by rw [HLL.out]; omega)
      by_cases hlen : (lineL c).length ≤ 4096
      · have HPS := mkW (pri_some HOK.out hlen)
        have hli : ((lineL c).length : Int) ≤ 4096 := by omega
        have hgt : decide ((4096 : Int) < ((lineL c).length : Int)) = false := decide_eq_false (by omega)
        have hgn : decide (4096 < (lineL c).length) = false := decide_eq_false (by omega)
        obtain ⟨L, hL⟩ : ∃ L, lineL c = L := ⟨_, rfl⟩
        rw [hL] at HLN HPS hli hgt hgn
        clear hal hlm HLL hL hlen
        go_wp2_with (go_at_call 23; refine (HLN.out _ HW7.out).mono ?_; rintro e w8 ⟨rfl, hb8⟩)
        have HB8 := mkW (below_on HW7.out.bel hb8)
        clear hb8
        go_wp2
        go_ret2
        exact ⟨⟨L, 0, rfl, HPS.out⟩, HB8.out⟩
      · have hno : ¬ (OkC c ∧ (lineL c).length ≤ 4096) := fun h => hlen h.2
        have HPN := mkW (pri_none hno)
        have hgt : decide ((4096 : Int) < ((lineL c).length : Int)) = true := decide_eq_true (by omega)
        have hgn : decide (4096 < (lineL c).length) = true := decide_eq_true (by omega)
        obtain ⟨L, hL⟩ : ∃ L, lineL c = L := ⟨_, rfl⟩
        rw [hL] at HLN hgt hgn
        clear hal hlm HLL hL hlen hno
        go_wp2_with (go_at_call 23; refine (HLN.out _ HW7.out).mono ?_; rintro e w8 ⟨rfl, hb8⟩)
        have HB8 := mkW (below_on HW7.out.bel hb8)
        clear hb8
        go_wp2
        go_ret2
        exact ⟨⟨[], 230, rfl, HPN.out⟩, HB8.out⟩
  · have hno : ¬ (OkC c ∧ (lineL c).length ≤ 4096) := fun h => hv ⟨h.1.v1, h.1.v2⟩
    have HPN := mkW (pri_none hno)
    rw [if_neg hv, show decide (0 ≤ c.verb ∧ c.verb < 11) = false from decide_eq_false hv] at HVO
    clear hno hv
    go_enter Tryz.func8, Tryz.ntmps8
    go_wp2_with fail
    refine HVO.out.mono ?_
    rintro e w2 ⟨rfl, hb2⟩
    have HB2 := mkW (below_on HB1.out hb2)
    clear hb2
    go_wp2
    go_ret2
    exact ⟨⟨[], 230, rfl, HPN.out⟩, HB2.out.alloc HB2.out.size _⟩
end Go.Proofs.YtlnppgjppfkocaaGreatDoor.Xs
