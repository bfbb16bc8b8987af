import Derived.Test.YtjhbaplnkigifaaQk30
/-! keydir: untold. -/
namespace Go.Proofs.Ytjhbaplnkigifaa
open Go.RowKit Go.Deep Go.ChangeShapes Go.WideShapes Go.ChangeAt Plain
set_option linter.unusedVariables false
set_option linter.unusedSimpArgs false

theorem UnS.start {w w7 w8 : World} {gw gl : Nat} {t : TypeId} (h : (∃ D O, (∀ g, D g → w.heap.size ≤ g) ∧ WS D O w7 gw 0 0) ∧ Below w.heap.size w w7) (hgl : gl = w7.heap.size) (e : w7.alloc (.cells #[.slice none 0 0, .slice none 0 0] t) = w8) : UnS (fun _ => False) w gw gl 0 0 w8 := by
  subst hgl
  obtain ⟨⟨D, O, h1, h2⟩, h3⟩ := h
  have hb : Below w7.heap.size w7 w8 := by rw [← e]; exact (Below.refl _ _).alloc (Nat.le_refl _) _
  have hs : w8.heap.size = w7.heap.size + 1 := by rw [← e]; exact Array.size_push _
  have hsz := h3.size
  have hLB : ∀ g, LtB w7.heap.size none none [] g → g = w7.heap.size := fun g hg => by
    rcases hg with e | e | e | ⟨k, hk, _⟩
    · exact e
    · cases e
    · cases e
    · simp at hk
  refine ⟨fun g => D g ∨ g = w7.heap.size, O, .slice none 0 0, .slice none 0 0, none, none, [], fun g hg => hg.elim (h1 g) (fun e => by omega), h2.late (S := fun _ => False) (Chg.ofBelow hb) (fun g hg => hg.elim) (fun g hg => .inl hg) (fun g hg => hg.imp id (fun e => by omega)), ?_, rfl, fun g hg => ⟨.inr (hLB g hg), fun ho => ?_⟩, h3.trans (hb.mono h3.size), fun g hg => hg.elim⟩
  · refine ⟨by rw [← e]; exact World.cell?_alloc_at _ _ _ _ rfl, by rw [← e]; exact World.cell?_alloc_at _ _ _ _ rfl, fun j => by rw [← e]; exact World.frozen?_alloc_new _ _ _ j, OwnV.nil _, OwnV.nil _, ?_, ?_, ?_, by simp, by simp, by simp, by simp, ?_, ?_⟩ <;> intro k <;> intros <;> simp_all
  · have := h2.bnd g (h2.sub g ho); have := hLB g hg; omega
theorem Hid.mk'' {p : Prop} (h : p) : Hid p := h
/-- How many lists Late has got. -/
theorem UnS.lens {X : Nat → Prop} {w : World} {gw gl k n : Nat} {wr : World} (h : UnS X w gw gl k n wr) : ∃ a c, wr.cell? ⟨gl, 0, none⟩ = some (.slice a n c) := by
  obtain ⟨D, O, vL, vW, rL, rW, its, h1, h2, h3, h4, h5, h6, h7⟩ := h
  obtain ⟨a, c, e, -, -⟩ := h3.rowL.shape
  rw [List.length_map, h4] at e
  exact ⟨a, c, by rw [h3.c0, e]⟩
set_option maxHeartbeats 8000000 in
set_option maxRecDepth 100000 in
theorem untoldOf (hEro : EroOk) (v : Value) (st : List Mv) (w : World) (hm : MvsAt w v st) : Calls Try.prog 9 #[v] w fun e w' => e = .returned (.bool true) ∧ Below w.heap.size w w' := by
  have hlen : st.length ≤ 1353245080300 := by obtain ⟨a, cap, rfl, h1, h2, h3⟩ := hm; exact h1
  obtain ⟨a, cap, rfl⟩ : ∃ a cap, v = .slice a st.length cap := by obtain ⟨a, cap, rfl, h1, h2, h3⟩ := hm; exact ⟨a, cap, rfl⟩
  have HM : Hid (MvsAt w (.slice a st.length cap) st) := hm
  clear hm
  go_enter Try.func9, Try.ntmps9
  go_wp2
  simp only [getD3]
  refine wp_gen (P := fun u => UnS (fun _ => False) w (w.heap.size + 1 + 1 + 1 + 1 + 1 + 1) (w.heap.size + 1 + 1 + 1 + 1 + 1 + 1 + 1) 0 0 u) (UnS.start (initOf rfl rfl rfl rfl rfl rfl rfl) (by simp) rfl) ?_
  intro w8 H8
  have HU8 : Hid (UnS (fun _ => False) w (w.heap.size + 1 + 1 + 1 + 1 + 1 + 1) (w.heap.size + 1 + 1 + 1 + 1 + 1 + 1 + 1) 0 0 w8) := H8
  clear H8
  generalize w.heap.size + 1 + 1 + 1 + 1 + 1 + 1 + 1 = gl at *
  generalize w.heap.size + 1 + 1 + 1 + 1 + 1 + 1 = gw at *
  go_loopw [5] (fun i wr => ∃ k : Nat, k ≤ st.length ∧ i = .int .i64 k ∧ Hid (∃ n, n ≤ 402 ∧ UnS (fun _ => False) w gw gl k n wr)) (fun i _ => st.length - (intOf i).toNat)
  case atStart => exact ⟨0, by omega, rfl, ⟨0, by omega, HU8.out⟩⟩
  case round =>
    obtain ⟨k, hk, rfl, HK⟩ := hrel
    obtain ⟨n, hn, hU⟩ := HK.out
    have HU : Hid (UnS (fun _ => False) w gw gl k n wr) := hU
    by_cases hlt : k < st.length
    · have hki : (k : Int) < (st.length : Int) := by omega
      have HB : Hid (Below w.heap.size w wr) := by obtain ⟨D, O, vL, vW, rL, rW, its, h1, h2, h3, h4, h5, h6, h7⟩ := hU; exact h6
      have HMR : Hid (MvsAt wr (.slice a st.length cap) st) := HM.out.later HB.out
      obtain ⟨b, off, rfl, hok, hcs⟩ := HMR.out.at hlt
      generalize st.getD k Mv.zero = m at hok hcs
      have m0 := hcs 0 _ rfl
      rw [Nat.add_zero] at m0
      have m1 := hcs 1 _ rfl
      have m2 := hcs 2 _ rfl
      have m3 := hcs 3 _ rfl
      have m4 := hcs 4 _ rfl
      have m5 := hcs 5 _ rfl
      have m6 := hcs 6 _ rfl
      have m7 := hcs 7 _ rfl
      have m8 := hcs 8 _ rfl
      have m9 := hcs 9 _ rfl
      have m10 := hcs 10 _ rfl
      obtain ⟨w0, hw0⟩ : ∃ w0, wr.alloc (.cells #[.int .i64 m.dir, .int .i64 m.kind, .string m.key, .string m.hi, .int .i64 m.e.seg, .int .i64 m.e.pos, .int .i64 m.e.size, .int .i64 m.e.off, .int .i64 m.e.time, .bool m.e.tomb, .int .i64 m.n] 40) = w0 := ⟨_, rfl⟩
      have HM0 : Hid (MvAt w0 wr.heap.size m) := by unfold Hid; rw [← hw0]; exact MvAt.new wr m
      have HU0 : Hid (UnS (fun g => g = wr.heap.size) w gw gl k n w0) := by unfold Hid; rw [← hw0]; exact hU.box _
      have HT : Hid (Calls Try.prog 6 #[.pointer (some ⟨gw, 0, none⟩), m.v] w0 fun e w' => e = .returned (.bool true) ∧ UnS (fun g => g = wr.heap.size) w gw gl (k + 1) n w' ∧ ∀ g, g = wr.heap.size → w'.heap[g]? = w0.heap[g]?) := HU0.out.told hEro m hok (by omega)
      have z0 := HM0.out.c 0 _ rfl
      have z1 := HM0.out.c 1 _ rfl
      have z2 := HM0.out.c 2 _ rfl
      have z3 := HM0.out.c 3 _ rfl
      have z4 := HM0.out.c 4 _ rfl
      have z5 := HM0.out.c 5 _ rfl
      have z6 := HM0.out.c 6 _ rfl
      have z7 := HM0.out.c 7 _ rfl
      have z8 := HM0.out.c 8 _ rfl
      have z9 := HM0.out.c 9 _ rfl
      have z10 := HM0.out.c 10 _ rfl
      clear hcs hU
      by_cases h7 : m.kind = 7
      · have h7b : (m.kind == 7) = true := by simp [h7]
        go_wp2_with fail
        clear m0 m1 m2 m3 m4 m5 m6 m7 m8 m9 m10 z0 z1 z2 z3 z4 z5 z6 z7 z8 z9 z10 HT
        generalize wr.heap.size = bx at HM0 HU0 ⊢
        go_loopw [7, 8] (fun o j wz => ∃ i n : Nat, i ≤ 16 ∧ n ≤ 402 ∧ o = .bool true ∧ j = .int .i64 i ∧ Hid (UnS (fun g => g = bx) w gw gl k n wz) ∧ Hid (MvAt wz bx m)) (fun _ j _ => 16 - (intOf j).toNat)
        case atStart => exact ⟨0, n, by omega, hn, rfl, rfl, by rw [h7] at hw0; rw [hw0]; exact HU0, by rw [h7] at hw0; rw [hw0]; exact HM0⟩
        case round =>
          clear hw0
          obtain ⟨i, n', hi16, hn', rfl, rfl, HUz, HMz⟩ := hrel
          obtain ⟨aL, cL, hcl⟩ := HUz.out.lens
          obtain ⟨vd, vx, ps, hE⟩ := HUz.out.named
          obtain ⟨hp1, hp8, g1, g2, c1, c2, rfl, rfl, hc0, hc1, hrow⟩ := hE.rows
          have z1 := HMz.out.c 1 _ rfl
          have z2 := HMz.out.c 2 _ rfl
          have z3 := HMz.out.c 3 _ rfl
          have z10 := HMz.out.c 10 _ rfl
          by_cases h400 : n' < 400
          · by_cases hiL : i < 2 * ps.length
            · have hmod : i % ps.length < ps.length := Nat.mod_lt _ (by omega)
              obtain ⟨r1, r2⟩ := hrow _ hmod
              have ha4 : (n' : Int) < 400 := by omega
              have hb4 : (i : Int) < 2 * (ps.length : Int) := by omega
              have hwr : IntKind.i64.wrap (2 * (ps.length : Int)) = 2 * (ps.length : Int) := IntWalk.i64_in _ (by omega)
              have HE : Hid (UnE (fun g => g = bx) w gw gl k n' wr (.slice (some ⟨g1, 0, none⟩) ps.length c1) (.slice (some ⟨g2, 0, none⟩) ps.length c2) ps) := hE
              have hmi : ((i : Int) % (ps.length : Int)) = ((i % ps.length : Nat) : Int) := by omega
              have hmd : Hid (i % ps.length < ps.length) := hmod
              obtain ⟨SS, hSS⟩ : ∃ SS : World → Nat → Prop, SS = fun u j => UnE (fun g => g = bx) w gw gl k (n' + j) u (.slice (some ⟨g1, 0, none⟩) ps.length c1) (.slice (some ⟨g2, 0, none⟩) ps.length c2) ps ∧ MvAt u bx m := ⟨_, rfl⟩
              have HS0 : Hid (∀ u, Below wr.heap.size wr u → SS u 0) := fun u hu => by rw [hSS]; exact ⟨HE.out.later hu, HMz.out.later hu⟩
              have HSL : Hid (∀ v u j, SS v j → Below v.heap.size v u → SS u j) := fun v u j hv hu => by rw [hSS] at hv ⊢; exact ⟨hv.1.later hu, hv.2.later hu⟩
              have HSE : Hid (∀ u j, SS u j → UnS (fun g => g = bx) w gw gl k (n' + j) u ∧ MvAt u bx m) := fun u j hu => by rw [hSS] at hu; exact ⟨hu.1.un, hu.2⟩
              have HAN : Hid (∀ u j lo hi lim, SS u j → j ≤ 1 → lo.size ≤ maxLen → hi.size ≤ maxLen → Calls Try.prog 38 #[.pointer (some ⟨gl, 0, none⟩), .pointer (some ⟨(ps.getD (i % ps.length) Dp.zero).gd, 0, none⟩), .pointer (some ⟨(ps.getD (i % ps.length) Dp.zero).gx, 0, none⟩), .string lo, .string hi, .int .i64 lim] u fun e w' => e = .returned (.bool true) ∧ SS w' (j + 1)) := fun u j lo hi lim hu hj hlo hhi => by
                rw [hSS] at hu
                refine (hu.1.asked (by omega) (by omega) hmod lo hi lim hlo hhi).mono ?_
                rintro e w' ⟨he, h1, h2⟩
                refine ⟨he, ?_⟩
                rw [hSS]
                exact ⟨h1, hu.2.of_block (h2 _ rfl)⟩
              have HSC : Hid (∀ u j, SS u j → u.cell? ⟨gw, 0, none⟩ = some (.slice (some ⟨g1, 0, none⟩) ps.length c1) ∧ u.cell? ⟨gw, 1, none⟩ = some (.slice (some ⟨g2, 0, none⟩) ps.length c2) ∧ u.cell? ⟨g1, i % ps.length, none⟩ = some (.pointer (some ⟨(ps.getD (i % ps.length) Dp.zero).gd, 0, none⟩)) ∧ u.cell? ⟨g2, i % ps.length, none⟩ = some (.pointer (some ⟨(ps.getD (i % ps.length) Dp.zero).gx, 0, none⟩)) ∧ u.cell? ⟨bx, 2, none⟩ = some (.string m.key) ∧ u.cell? ⟨bx, 3, none⟩ = some (.string m.hi) ∧ u.cell? ⟨bx, 10, none⟩ = some (.int .i64 m.n)) := fun u j hu => by
                rw [hSS] at hu
                obtain ⟨-, -, g1', g2', c1', c2', e1, e2, q0, q1, qr⟩ := hu.1.rows
                cases e1
                cases e2
                exact ⟨q0, q1, (qr _ hmod).1, (qr _ hmod).2, hu.2.c 2 _ rfl, hu.2.c 3 _ rfl, hu.2.c 10 _ rfl⟩
              have HOK : Hid (m.key.size ≤ maxLen ∧ m.hi.size ≤ maxLen) := ⟨hok.key, hok.hi⟩
              clear hE hrow HU HK HU0 HM0 HE HUz HMz hSS
              generalize (ps.getD (i % ps.length) Dp.zero).gd = pd at r1 HAN HSC
              generalize (ps.getD (i % ps.length) Dp.zero).gx = px at r2 HAN HSC
              go_wp2_with fail
              rw [hmi]
              have hmj : ((i % ps.length : Nat) : Int) < (ps.length : Int) := by omega
              clear hmi hmod hmd
              generalize i % ps.length = q at *
              go_region_held3 (fun w' => w'.cell? ⟨gw, 0, none⟩ = some (.slice (some ⟨g1, 0, none⟩) ps.length c1) ∧ w'.cell? ⟨gw, 1, none⟩ = some (.slice (some ⟨g2, 0, none⟩) ps.length c2) ∧ w'.cell? ⟨g1, q, none⟩ = some (.pointer (some ⟨pd, 0, none⟩)) ∧ w'.cell? ⟨g2, q, none⟩ = some (.pointer (some ⟨px, 0, none⟩)) ∧ w'.cell? ⟨bx, 2, none⟩ = some (.string m.key) ∧ w'.cell? ⟨bx, 3, none⟩ = some (.string m.hi) ∧ w'.cell? ⟨bx, 10, none⟩ = some (.int .i64 m.n)) (go_keep) (first
                | (go_at_call 38
                   refine (HAN.out _ _ _ _ _ (by first | exact HS4.out _ (by first | exact Below.refl _ _ | exact Below.drew (Below.refl _ _)) | exact HS0.out _ (by first | exact Below.refl _ _ | exact Below.drew (Below.refl _ _))) (by omega) (by first | exact HOK.out.1 | decide) (by first | exact HOK.out.2 | decide)).mono ?_
                   rintro e w4 ⟨rfl, hu4⟩
                   rcases HSC.out w4 _ hu4 with ⟨e1, e2, e3, e4, e5, e6, e7⟩
                   have HS4 := Hid.mk'' (fun u hu => HSL.out w4 u _ hu4 hu)
                   clear hu4))
              clear HSC HAN HS0 HSL
              have HF4 : Hid (UnS (fun g => g = bx) w gw gl k (n' + (0 + 1 + 1)) w4 ∧ MvAt w4 bx m) := HSE.out _ _ (HS4.out _ (Below.refl _ _))
              clear HS4 HSE
              go_wp2
              go_roundw
              case rel => exact ⟨i + 1, n' + (0 + 1 + 1), by omega, by omega, rfl, by go_num, HF4.out.1, HF4.out.2⟩
              case measure => simp [intOf]; omega
            · have hb4 : ¬ (i : Int) < 2 * (ps.length : Int) := by omega
              have ha4 : (n' : Int) < 400 := by omega
              have hwr : IntKind.i64.wrap (2 * (ps.length : Int)) = 2 * (ps.length : Int) := IntWalk.i64_in _ (by omega)
              have HUf : Hid (UnS (fun _ => False) w gw gl (k + 1) n' wr) := HUz.out.free.mono (by omega)
              clear hrow hE
              go_wp2
              go_roundw
              case rel => exact ⟨k + 1, by omega, by go_num, ⟨n', hn', HUf.out⟩⟩
              case measure => simp [intOf]; omega
          · have ha4 : ¬ (n' : Int) < 400 := by omega
            have HUf : Hid (UnS (fun _ => False) w gw gl (k + 1) n' wr) := HUz.out.free.mono (by omega)
            clear hrow hE
            go_wp2
            go_roundw
            case rel => exact ⟨k + 1, by omega, by go_num, ⟨n', hn', HUf.out⟩⟩
            case measure => simp [intOf]; omega
      · have h7b : (m.kind == 7) = false := by simpa using h7
        go_wp2_with fail
        refine HT.out.mono ?_
        rintro e w3 ⟨rfl, hu3, hx3⟩
        have HU3 : Hid (UnS (fun _ => False) w gw gl (k + 1) n w3) := hu3.free
        have hz1 : w3.cell? ⟨wr.heap.size, 1, none⟩ = some (.int .i64 m.kind) := (HM0.out.of_block (hx3 _ rfl)).c 1 _ rfl
        clear hu3 hx3 HT m0 m1 m2 m3 m4 m5 m6 m7 m8 m9 m10 z0 z1 z2 z3 z4 z5 z6 z7 z8 z9 z10
        go_wp2
        go_loopw [7, 8] (fun o j wz => wz = w3 ∧ o = .bool true ∧ j = .int .i64 0) (fun _ _ _ => 0)
        case atStart => exact ⟨rfl, rfl, rfl⟩
        case round =>
          obtain ⟨rfl, rfl, rfl⟩ := hrel
          go_wp2
          go_roundw
          case rel => exact ⟨k + 1, by omega, by go_num, ⟨n, hn, HU3.out⟩⟩
          case measure => simp [intOf]; omega
    · have HW : Hid (Calls Try.prog 8 #[.pointer (some ⟨gw, 0, none⟩)] wr fun e w' => e = .returned (.bool true) ∧ Below wr.heap.size wr w') := by obtain ⟨D, O, vL, vW, rL, rW, its, h1, h2, h3, h4, h5, h6, h7⟩ := hU; exact h2.whole
      have HA : Hid (∀ u, Below wr.heap.size wr u → Calls Try.prog 39 #[.pointer (some ⟨gl, 0, none⟩)] u fun e w' => e = .returned (.bool true) ∧ Below w.heap.size w w') := fun u hu => by
        obtain ⟨D, O, vL, vW, rL, rW, its, h1, h2, h3, h4, h5, h6, h7⟩ := hU
        refine (aloneOf gl vL vW rL rW its u (h3.later hu)).mono fun e w' ⟨q1, q2⟩ => ⟨q1, ?_⟩
        have hb := h6.trans (hu.mono h6.size)
        exact hb.trans ⟨q2.os, q2.tape, q2.output, q2.size, fun g hg => q2.block g (Nat.lt_of_lt_of_le hg hb.size) (fun hs => by have := h1 g (h5 g hs).1; omega)⟩
      clear hU
      go_wp2_with fail
      refine HW.out.mono ?_
      rintro e w3 ⟨rfl, hb3⟩
      have HA3 : Hid (Calls Try.prog 39 #[.pointer (some ⟨gl, 0, none⟩)] w3 fun e w' => e = .returned (.bool true) ∧ Below w.heap.size w w') := HA.out w3 hb3
      clear hb3 HA HW
      go_wp2_with fail
      refine HA3.out.mono ?_
      rintro e w4 ⟨rfl, hb4⟩
      have HB4 : Hid (Below w.heap.size w w4) := hb4
      clear hb4
      go_wp2
      go_ret
      exact ⟨rfl, HB4.out⟩
end Go.Proofs.Ytjhbaplnkigifaa
