import Derived.Test.YtpeejgnkdoeijaaMcG
/-! manifest: which catalogues may be: the program's. -/
namespace Go.Proofs.Ytpeejgnkdoeijaa
open Go.RowKit Plain
set_option linter.unusedVariables false
set_option linter.unusedSimpArgs false

def nmLt (a b : ByteArray) : Bool := decide (cmpL a.data.toList b.data.toList < 0)
def goodT (l : List Te) (next : Int) (i : Nat) : Bool := entB (l.getD i Te.zero) next && (!hasId (l.take i) (l.getD i Te.zero).id && (decide (i = 0) || nmLt (l.getD (i - 1) Te.zero).name (l.getD i Te.zero).name))
def okTops (l : List Te) (next : Int) : Bool := decide (l.length ≤ 16) && allB l.length (goodT l next)
set_option maxHeartbeats 8000000 in
theorem areTopicsOf (v : Value) (l : List Te) (next : Int) (w : World) (h : TesIn w v l) (hn : 1 ≤ next ∧ next ≤ 1073741824) : Calls Try.prog 31 #[v, .int .i64 next] w fun e w' => e = .returned (.bool (okTops l next)) ∧ Below w.heap.size w w' := by
  have HT : Hid (∀ u k, Below w.heap.size w u → k ≤ l.length → ∀ a n c, v = .slice a n c → TesAt u (.slice a k c) (l.take k)) := fun u k hu hk a n c e => by subst e; exact (h.1.later hu).take k hk
  have hroom := h.2
  obtain ⟨a, cap, rfl, hcl, hok, hcells⟩ := h.1
  have hcap : l.length ≤ cap := hroom _ _ _ rfl
  have HC : Hid (∀ u m, Below w.heap.size w u → m < l.length → ∃ b off, a = some ⟨b, off, none⟩ ∧ Te.CellsAt u b (off + m * 4) (l.getD m Te.zero)) := fun u m hu hm => by
    obtain ⟨b, off, e, hc⟩ := hcells (by intro e; rw [e] at hm; simp at hm)
    exact ⟨b, off, e, (hc m hm).block (hu.block _ (hc m hm).lt)⟩
  have HOKE : Hid (∀ m, m < l.length → (l.getD m Te.zero).Ok) := fun m hm => hok _ (by simp [hm])
  have HOKS : Hid (okTops l next = (decide (l.length ≤ 16) && allB l.length (goodT l next))) := rfl
  generalize okTops l next = R at HOKS ⊢
  clear hcells hok hroom h
  by_cases hlen : l.length ≤ 16
  · have HR : Hid (R = allB l.length (goodT l next)) := by rw [Hid, HOKS.out, decide_eq_true hlen]; rfl
    clear HOKS
    have hlen' : ¬ (16 : Int) < (l.length : Int) := by omega
    go_enter Try.func31, Try.ntmps31
    go_wp2
    go_loopw [12] (fun i wr => ∃ k : Nat, k ≤ l.length ∧ i = .int .i64 k ∧ Hid (allB k (goodT l next) = true) ∧ Hid (Below w.heap.size w wr)) (fun i _ => l.length - (intOf i).toNat)
    case atStart => exact ⟨0, by omega, rfl, allB_zero _, Below.refl _ _⟩
    case round =>
      obtain ⟨k, hk, rfl, HA, HBW⟩ := hrel
      by_cases hlt : k < l.length
      · obtain ⟨b, off, rfl, hc⟩ := HC.out wr k HBW.out hlt
        have HOKK : Hid ((l.getD k Te.zero).Ok) := HOKE.out k hlt
        have HG : Hid (goodT l next k = (entB (l.getD k Te.zero) next && (!hasId (l.take k) (l.getD k Te.zero).id && (decide (k = 0) || nmLt (l.getD (k - 1) Te.zero).name (l.getD k Te.zero).name)))) := rfl
        have HB : Hid (goodT l next k = false → R = false) := fun e => by rw [HR.out]; exact allB_bad hlt e
        have HS : Hid (goodT l next k = true → allB (k + 1) (goodT l next) = true) := fun e => allB_step HA.out e
        have HPV : Hid (∀ u, Below w.heap.size w u → 0 < k → u.cell? ⟨b, off + (k - 1) * 4 + 1, none⟩ = some (.string (l.getD (k - 1) Te.zero).name) ∧ (l.getD (k - 1) Te.zero).name.size ≤ maxLen) := fun u hu h0 => by
          obtain ⟨b', o', e, hh⟩ := HC.out u (k - 1) hu (by omega)
          simp at e
          obtain ⟨rfl, rfl⟩ := e
          exact ⟨hh.c1, (HOKE.out (k - 1) (by omega)).name⟩
        generalize l.getD k Te.zero = x at hc HG HOKK
        generalize (l.getD (k - 1) Te.zero).name = pv at HG HPV
        obtain ⟨xi, xn, xl, xh⟩ := x
        obtain ⟨c0, c1, c2, c3⟩ := hc
        simp only at c0 c1 c2 c3 HG
        generalize goodT l next k = G at HG HB HS
        clear HA
        have hki : (k : Int) < (l.length : Int) := by omega
        obtain ⟨w1, hw1⟩ : ∃ w1, wr.alloc (.cells #[.int .i64 xi, .string xn, .int .i64 xl, .int .i64 xh] 58) = w1 := ⟨_, rfl⟩
        have HB1 : Hid (Below w.heap.size w w1) := by rw [← hw1]; exact below_step HBW.out ((Below.refl _ _).alloc (Nat.le_refl _) _)
        have hs1 : w1.heap.size = wr.heap.size + 1 := by rw [← hw1]; simp
        have HD : Hid (∀ u, Below w1.heap.size w1 u → u.cell? ⟨wr.heap.size, 0, none⟩ = some (.int .i64 xi) ∧ u.cell? ⟨wr.heap.size, 1, none⟩ = some (.string xn) ∧ u.cell? ⟨wr.heap.size, 2, none⟩ = some (.int .i64 xl) ∧ u.cell? ⟨wr.heap.size, 3, none⟩ = some (.int .i64 xh)) := fun u hu => by
          have hcc : ∀ j, u.cell? ⟨wr.heap.size, j, none⟩ = w1.cell? ⟨wr.heap.size, j, none⟩ := fun j => hu.cell (p := ⟨wr.heap.size, j, none⟩) (by show wr.heap.size < _; omega)
          rw [hcc, hcc, hcc, hcc, ← hw1]
          exact ⟨World.cell?_alloc_at _ _ _ _ rfl, World.cell?_alloc_at _ _ _ _ rfl, World.cell?_alloc_at _ _ _ _ rfl, World.cell?_alloc_at _ _ _ _ rfl⟩
        obtain ⟨d0, d1, d2, d3⟩ := HD.out w1 (Below.refl _ _)
        have HEN : Hid (Calls Try.prog 54 #[.agg #[.int .i64 xi, .string xn, .int .i64 xl, .int .i64 xh], .int .i64 next] w1 fun e w' => e = .returned (.bool (entB ⟨xi, xn, xl, xh⟩ next)) ∧ Below w1.heap.size w1 w') := isEntryOf ⟨xi, xn, xl, xh⟩ next w1 HOKK.out hn
        have HCO : Hid (∀ u, Below w1.heap.size w1 u → Calls Try.prog 55 #[.slice (some ⟨b, off, none⟩) k cap, .func (.func 56) #[] #[.pointer (some ⟨wr.heap.size, 0, none⟩)]] u fun e w' => e = .returned (.bool (hasId (l.take k) xi)) ∧ Below u.heap.size u w') := fun u hu =>
          containsFOf _ (l.take k) wr.heap.size xi u (HT.out u k (below_step HB1.out hu) hk _ _ _ rfl) (HD.out u hu).1
        have HXN : Hid (xn.size ≤ maxLen) := HOKK.out.name
        generalize entB ⟨xi, xn, xl, xh⟩ next = EB at HG HEN
        generalize hasId (l.take k) xi = HH at HG HCO
        clear HOKK hs1
        cases EB with
        | false =>
          have HR1 : Hid (R = false) := HB.out (by rw [HG.out]; rfl)
          clear HG HB HS
          go_wp2_with fail
          refine HEN.out.mono ?_
          rintro e w2 ⟨rfl, hb2⟩
          have HB2 : Hid (Below w.heap.size w w2) := below_step HB1.out hb2
          clear hb2
          go_wp2
          go_ret
          exact ⟨by rw [HR1.out]; rfl, HB2.out⟩
        | true =>
          cases HH with
          | true =>
            have HR1 : Hid (R = false) := HB.out (by rw [HG.out]; rfl)
            clear HG HB HS
            go_wp2_with fail
            refine HEN.out.mono ?_
            rintro e w2 ⟨rfl, hb2⟩
            have HB2 : Hid (Below w1.heap.size w1 w2) := hb2
            clear hb2
            go_wp2_with fail
            refine (HCO.out w2 HB2.out).mono ?_
            rintro e w3 ⟨rfl, hb3⟩
            have HB3 : Hid (Below w.heap.size w w3) := below_step (below_step HB1.out HB2.out) hb3
            clear hb3
            go_wp2
            go_ret
            exact ⟨by rw [HR1.out]; rfl, HB3.out⟩
          | false =>
            by_cases hk0 : k = 0
            · subst hk0
              have HS1 : Hid (allB (0 + 1) (goodT l next) = true) := HS.out (by rw [HG.out]; rfl)
              clear HG HB HS
              simp only [Nat.zero_mul, Nat.add_zero] at c0 c1 c2 c3
              go_wp2_with fail
              refine HEN.out.mono ?_
              rintro e w2 ⟨rfl, hb2⟩
              have HB2 : Hid (Below w1.heap.size w1 w2) := hb2
              clear hb2
              go_wp2_with fail
              refine (HCO.out w2 HB2.out).mono ?_
              rintro e w3 ⟨rfl, hb3⟩
              have HB3 : Hid (Below w.heap.size w w3) := below_step (below_step HB1.out HB2.out) hb3
              clear hb3
              have HD3 : Hid (∀ n, Below w.heap.size w (w3.drewN n)) := fun n => ⟨HB3.out.os, HB3.out.tape, HB3.out.output, HB3.out.size, HB3.out.block⟩
              go_wp2
              go_quiet (fail)
              go_wp2
              go_roundw
              case rel => exact ⟨1, by omega, by go_num, HS1.out, HD3.out _⟩
              case measure => simp [intOf]; omega
            · obtain ⟨k, rfl⟩ : ∃ q, k = q + 1 := ⟨k - 1, by omega⟩
              have hki1 : (k : Int) + 1 < (l.length : Int) := by omega
              have hki2 : (k : Int) < (l.length : Int) := by omega
              have hwk : IntKind.i64.wrap (k : Int) = (k : Int) := IntWalk.i64_in _ (by omega)
              clear hki
              have HPW : Hid (∀ u, Below w.heap.size w u → u.cell? ⟨b, off + k * 4 + 1, none⟩ = some (.string pv) ∧ pv.size ≤ maxLen) := fun u hu => HPV.out u hu (by omega)
              have HCP : Hid (∀ u, Calls Try.prog 57 #[.string pv, .string xn] u fun e w' => e = .returned (.int .i64 (cmpL pv.data.toList xn.data.toList)) ∧ Below u.heap.size u w') := fun u => compare pv xn u (HPW.out w1 HB1.out).2 HXN.out
              have HGL : Hid (G = decide (cmpL pv.data.toList xn.data.toList < 0)) := by rw [Hid, HG.out]; simp [nmLt]
              generalize cmpL pv.data.toList xn.data.toList = C at HCP HGL
              clear HPV HG
              by_cases hc0 : C < 0
              · have HS1 : Hid (allB (k + 1 + 1) (goodT l next) = true) := HS.out (by rw [HGL.out, decide_eq_true hc0])
                clear HGL HB HS
                go_wp2_with fail
                refine HEN.out.mono ?_
                rintro e w2 ⟨rfl, hb2⟩
                have HB2 : Hid (Below w1.heap.size w1 w2) := hb2
                clear hb2
                go_wp2_with fail
                refine (HCO.out w2 HB2.out).mono ?_
                rintro e w3 ⟨rfl, hb3⟩
                have HB13 : Hid (Below w1.heap.size w1 w3) := below_step HB2.out hb3
                have HB3 : Hid (Below w.heap.size w w3) := below_step HB1.out HB13.out
                obtain ⟨f0, f1, f2, f3⟩ := HD.out w3 HB13.out
                have p1 := (HPW.out w3 HB3.out).1
                clear hb3
                go_wp2
                go_region_held3 (fun w' => w'.cell? ⟨b, off + k * 4 + 1, none⟩ = some (.string pv) ∧ w'.cell? ⟨wr.heap.size, 1, none⟩ = some (.string xn)) (go_keep) (first
                  | (go_at_call 57
                     refine (HCP.out _).mono ?_
                     rintro e w4 ⟨rfl, hb4⟩
                     have HB4 : Hid (Below w.heap.size w w4) := (HB3.out.drew).trans (hb4.mono HB3.out.size)
                     have HB14 : Below w1.heap.size w1 w4 := (HB13.out.drew).trans (hb4.mono HB13.out.size)
                     rcases HPW.out w4 HB4.out with ⟨q1, -⟩
                     rcases HD.out w4 HB14 with ⟨q2, q3, q4, q5⟩
                     clear hb4 HB14))
                all_goals
                  go_wp2
                  go_roundw
                  case rel => exact ⟨k + 1 + 1, by omega, by go_num, HS1.out, HB4.out⟩
                  case measure => simp [intOf]; omega
              · have HR1 : Hid (R = false) := HB.out (by rw [HGL.out, decide_eq_false hc0])
                have hc0' : 0 ≤ C := by omega
                clear HGL HB HS
                go_wp2_with fail
                refine HEN.out.mono ?_
                rintro e w2 ⟨rfl, hb2⟩
                have HB2 : Hid (Below w1.heap.size w1 w2) := hb2
                clear hb2
                go_wp2_with fail
                refine (HCO.out w2 HB2.out).mono ?_
                rintro e w3 ⟨rfl, hb3⟩
                have HB13 : Hid (Below w1.heap.size w1 w3) := below_step HB2.out hb3
                have HB3 : Hid (Below w.heap.size w w3) := below_step HB1.out HB13.out
                obtain ⟨f0, f1, f2, f3⟩ := HD.out w3 HB13.out
                have p1 := (HPW.out w3 HB3.out).1
                clear hb3
                go_wp2
                go_region_held3 (fun w' => w'.cell? ⟨b, off + k * 4 + 1, none⟩ = some (.string pv) ∧ w'.cell? ⟨wr.heap.size, 1, none⟩ = some (.string xn)) (go_keep) (first
                  | (go_at_call 57
                     refine (HCP.out _).mono ?_
                     rintro e w4 ⟨rfl, hb4⟩
                     have HB4 : Hid (Below w.heap.size w w4) := (HB3.out.drew).trans (hb4.mono HB3.out.size)
                     have HB14 : Below w1.heap.size w1 w4 := (HB13.out.drew).trans (hb4.mono HB13.out.size)
                     rcases HPW.out w4 HB4.out with ⟨q1, -⟩
                     rcases HD.out w4 HB14 with ⟨q2, q3, q4, q5⟩
                     clear hb4 HB14))
                all_goals
                  go_wp2
                  go_ret
                  exact ⟨by rw [HR1.out]; rfl, HB4.out⟩
      · obtain rfl : k = l.length := by omega
        have HR1 : Hid (R = true) := by rw [Hid, HR.out]; exact HA.out
        clear HA
        go_wp2
        go_ret
        exact ⟨by rw [HR1.out]; rfl, HBW.out⟩
  · have HR : Hid (R = false) := by rw [Hid, HOKS.out, decide_eq_false hlen]; rfl
    have hlen' : (16 : Int) < (l.length : Int) := by omega
    go_enter Try.func31, Try.ntmps31
    go_wp2
    go_ret
    exact ⟨by rw [HR.out]; rfl, Below.refl _ _⟩
end Go.Proofs.Ytpeejgnkdoeijaa
