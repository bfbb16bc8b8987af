import Derived.Test.YtpeejgnkdoeijaaMcC
/-! manifest: producers that may be. -/
namespace Go.Proofs.Ytpeejgnkdoeijaa
open Go.RowKit Plain
set_option linter.unusedVariables false
set_option linter.unusedSimpArgs false

def goodP (l : List Pr) (next : Int) (i : Nat) : Bool := inW (l.getD i Pr.zero).pid 1 4294967295 && inW (l.getD i Pr.zero).seq 1 1099511627775 && inW (l.getD i Pr.zero).off 0 (next - 1) && (decide (i = 0) || decide ((l.getD (i - 1) Pr.zero).pid < (l.getD i Pr.zero).pid))
def okProds (l : List Pr) (next : Int) : Bool := decide (l.length ≤ 64) && allB l.length (goodP l next)
def aheadP (l : List Pr) (k : Nat) : Int := if k = 0 then 0 else (l.getD (k - 1) Pr.zero).pid
theorem aheadP_succ (l : List Pr) (k : Nat) : aheadP l (k + 1) = (l.getD k Pr.zero).pid := by unfold aheadP; simp
theorem aheadP_ok {l : List Pr} {next : Int} {k : Nat} (h : allB k (goodP l next) = true) : 0 ≤ aheadP l k ∧ aheadP l k ≤ 4294967295 := by
  unfold aheadP
  split
  · omega
  · have := allB_at h (k := k - 1) (by omega)
    unfold goodP inW at this
    simp only [Bool.and_eq_true, decide_eq_true_eq] at this
    omega
theorem goodP_ahead {l : List Pr} {next : Int} {k : Nat} (h : allB k (goodP l next) = true) : goodP l next k = (inW (l.getD k Pr.zero).pid (aheadP l k + 1) 4294967295 && inW (l.getD k Pr.zero).seq 1 1099511627775 && inW (l.getD k Pr.zero).off 0 (next - 1)) := by
  have ha := aheadP_ok h
  unfold goodP
  by_cases hk : k = 0
  · subst hk
    unfold aheadP
    simp
  · have e : aheadP l k = (l.getD (k - 1) Pr.zero).pid := by unfold aheadP; rw [if_neg hk]
    rw [← e]
    generalize aheadP l k = a at ha
    generalize l.getD k Pr.zero = p
    unfold inW
    rw [Bool.eq_iff_iff]
    simp only [Bool.and_eq_true, Bool.or_eq_true, decide_eq_true_eq]
    omega
set_option maxHeartbeats 4000000 in
theorem mareProdsOf (v : Value) (l : List Pr) (next : Int) (w : World) (h : PrsAt w v l) (hn : 0 ≤ next ∧ next ≤ 1099511627776) : Calls Try.prog 30 #[v, .int .i64 next] w fun e w' => e = .returned (.bool (okProds l next)) ∧ Below w.heap.size w w' := by
  obtain ⟨a, cap, rfl, hcl, hok, hcells⟩ := h
  have HC : Hid (∀ u m, Below w.heap.size w u → m < l.length → ∃ b off, a = some ⟨b, off, none⟩ ∧ Pr.CellsAt u b (off + m * 3) (l.getD m Pr.zero)) := fun u m hu hm => by
    obtain ⟨b, off, e, hc⟩ := hcells (by intro e; rw [e] at hm; simp at hm)
    exact ⟨b, off, e, (hc m hm).block (hu.block _ (hc m hm).lt)⟩
  have HOKS : Hid (okProds l next = (decide (l.length ≤ 64) && allB l.length (goodP l next))) := rfl
  generalize okProds l next = R at HOKS ⊢
  clear hcells hok
  by_cases hlen : l.length ≤ 64
  · have HR : Hid (R = allB l.length (goodP l next)) := by rw [Hid, HOKS.out, decide_eq_true hlen]; rfl
    clear HOKS
    have hlen' : ¬ (64 : Int) < (l.length : Int) := by omega
    go_enter Try.func30, Try.ntmps30
    go_wp2
    go_loopw [5, 13] (fun s5 i wr => ∃ k : Nat, k ≤ l.length ∧ s5 = .int .i64 (aheadP l k) ∧ i = .int .i64 k ∧ Hid (allB k (goodP l next) = true) ∧ Hid (Below w.heap.size w wr)) (fun _ i _ => l.length - (intOf i).toNat)
    case atStart => exact ⟨0, by omega, rfl, rfl, allB_zero _, Below.refl _ _⟩
    case round =>
      obtain ⟨k, hk, rfl, rfl, HA, HBW⟩ := hrel
      by_cases hlt : k < l.length
      · obtain ⟨b, off, rfl, hc⟩ := HC.out wr k HBW.out hlt
        have HG := goodP_ahead HA.out
        have HG' : Hid (goodP l next k = _) := HG
        clear HG
        have haa := aheadP_ok HA.out
        have HNX : Hid (aheadP l (k + 1) = (l.getD k Pr.zero).pid) := aheadP_succ l k
        have HB : Hid (goodP l next k = false → R = false) := fun e => by rw [HR.out]; exact allB_bad hlt e
        have HS : Hid (goodP l next k = true → allB (k + 1) (goodP l next) = true) := fun e => allB_step HA.out e
        generalize l.getD k Pr.zero = p at hc HG' HNX
        obtain ⟨pp, ps, po⟩ := p
        obtain ⟨c0, c1, c2⟩ := hc
        simp only at c0 c1 c2 HG' HNX
        generalize aheadP l k = ah at HG' haa
        generalize goodP l next k = G at HG' HB HS
        clear HA
        have hki : (k : Int) < (l.length : Int) := by omega
        obtain ⟨w1, hw1⟩ : ∃ w1, wr.alloc (.cells #[.int .i64 pp, .int .i64 ps, .int .i64 po] 56) = w1 := ⟨_, rfl⟩
        have HB1 : Hid (Below w.heap.size w w1) := by rw [← hw1]; exact below_step HBW.out ((Below.refl _ _).alloc (Nat.le_refl _) _)
        have d0 : w1.cell? ⟨wr.heap.size, 0, none⟩ = some (.int .i64 pp) := by rw [← hw1]; exact World.cell?_alloc_at _ _ _ _ rfl
        have d1 : w1.cell? ⟨wr.heap.size, 1, none⟩ = some (.int .i64 ps) := by rw [← hw1]; exact World.cell?_alloc_at _ _ _ _ rfl
        have d2 : w1.cell? ⟨wr.heap.size, 2, none⟩ = some (.int .i64 po) := by rw [← hw1]; exact World.cell?_alloc_at _ _ _ _ rfl
        cases h1 : inW pp (ah + 1) 4294967295 with
        | false =>
          have HR1 : Hid (R = false) := HB.out (by rw [HG'.out, h1]; rfl)
          clear HG' HB HS
          go_wp2_with fail
          refine (wint64Of pp (ah + 1) 4294967295 _).mono ?_
          rintro e w2 ⟨rfl, rfl⟩
          rw [h1]
          go_wp2
          go_ret
          exact ⟨by rw [HR1.out]; rfl, HB1.out⟩
        | true =>
          cases h2 : inW ps 1 1099511627775 with
          | false =>
            have HR1 : Hid (R = false) := HB.out (by rw [HG'.out, h1, h2]; rfl)
            clear HG' HB HS
            go_wp2_with fail
            refine (wint64Of pp (ah + 1) 4294967295 _).mono ?_
            rintro e w2 ⟨rfl, rfl⟩
            rw [h1]
            go_wp2_with fail
            refine (wint64Of ps 1 1099511627775 _).mono ?_
            rintro e w2 ⟨rfl, rfl⟩
            rw [h2]
            go_wp2
            go_ret
            exact ⟨by rw [HR1.out]; rfl, HB1.out⟩
          | true =>
            cases h3 : inW po 0 (next - 1) with
            | false =>
              have HR1 : Hid (R = false) := HB.out (by rw [HG'.out, h1, h2, h3]; rfl)
              clear HG' HB HS
              go_wp2_with fail
              refine (wint64Of pp (ah + 1) 4294967295 _).mono ?_
              rintro e w2 ⟨rfl, rfl⟩
              rw [h1]
              go_wp2_with fail
              refine (wint64Of ps 1 1099511627775 _).mono ?_
              rintro e w2 ⟨rfl, rfl⟩
              rw [h2]
              go_wp2_with fail
              refine (wint64Of po 0 (next - 1) _).mono ?_
              rintro e w2 ⟨rfl, rfl⟩
              rw [h3]
              go_wp2
              go_ret
              exact ⟨by rw [HR1.out]; rfl, HB1.out⟩
            | true =>
              have HS1 : Hid (allB (k + 1) (goodP l next) = true) := HS.out (by rw [HG'.out, h1, h2, h3]; rfl)
              clear HG' HB HS
              go_wp2_with fail
              refine (wint64Of pp (ah + 1) 4294967295 _).mono ?_
              rintro e w2 ⟨rfl, rfl⟩
              rw [h1]
              go_wp2_with fail
              refine (wint64Of ps 1 1099511627775 _).mono ?_
              rintro e w2 ⟨rfl, rfl⟩
              rw [h2]
              go_wp2_with fail
              refine (wint64Of po 0 (next - 1) _).mono ?_
              rintro e w2 ⟨rfl, rfl⟩
              rw [h3]
              go_wp2
              go_roundw
              case rel => exact ⟨k + 1, by omega, by rw [HNX.out], by go_num, HS1.out, HB1.out⟩
              case measure => simp [intOf]; omega
      · obtain rfl : k = l.length := by omega
        have HR1 : Hid (R = true) := by rw [Hid, HR.out]; exact HA.out
        clear HA
        go_wp2
        go_ret
        exact ⟨by rw [HR1.out]; rfl, HBW.out⟩
  · have HR : Hid (R = false) := by rw [Hid, HOKS.out, decide_eq_false hlen]; rfl
    have hlen' : (64 : Int) < (l.length : Int) := by omega
    go_enter Try.func30, Try.ntmps30
    go_wp2
    go_ret
    exact ⟨by rw [HR.out]; rfl, Below.refl _ _⟩

set_option maxHeartbeats 4000000 in
theorem prodsRightOf (m : Mf) (vs vp : Value) (w : World) (h : PrsAt w vp m.prods) (hn : 0 ≤ m.next ∧ m.next ≤ 1099511627776) : Calls Try.prog 34 #[m.agg vs vp] w fun e w' => e = .returned (.bool (okProds m.prods m.next)) ∧ Below w.heap.size w w' := by
  obtain ⟨w0, hw0⟩ : ∃ w0, w.alloc (m.obj vs vp) = w0 := ⟨_, rfl⟩
  have HB0 : Hid (Below w.heap.size w w0) := by rw [← hw0]; exact (Below.refl _ _).alloc (Nat.le_refl _) _
  have HM : Hid (∀ u, Below w0.heap.size w0 u → u.cell? ⟨w.heap.size, 2, none⟩ = some (.int .i64 m.next) ∧ u.cell? ⟨w.heap.size, 6, none⟩ = some vp) := fun u hu => by
    obtain ⟨-, -, m2, -, -, -, m6⟩ := mobj_cells w m vs vp hw0
    exact ⟨(hu.cell (p := ⟨w.heap.size, 2, none⟩) (cell_lt m2)).trans m2, (hu.cell (p := ⟨w.heap.size, 6, none⟩) (cell_lt m6)).trans m6⟩
  obtain ⟨m2, m6⟩ := HM.out w0 (Below.refl _ _)
  obtain ⟨mi, mn, mx, mk, mc, sg, l⟩ := m
  simp only at h hw0 m2 m6 HM hn ⊢
  obtain ⟨a, cap, rfl, hcl, hok, hcells⟩ := h.later HB0.out
  have HC : Hid (∀ u m, Below w0.heap.size w0 u → m < l.length → ∃ b off, a = some ⟨b, off, none⟩ ∧ Pr.CellsAt u b (off + m * 3) (l.getD m Pr.zero)) := fun u m hu hm => by
    obtain ⟨b, off, e, hc⟩ := hcells (by intro e; rw [e] at hm; simp at hm)
    exact ⟨b, off, e, (hc m hm).block (hu.block _ (hc m hm).lt)⟩
  have HOKS : Hid (okProds l mx = (decide (l.length ≤ 64) && allB l.length (goodP l mx))) := rfl
  generalize okProds l mx = R at HOKS ⊢
  clear hcells hok h
  unfold Mf.agg
  by_cases hlen : l.length ≤ 64
  · have HR : Hid (R = allB l.length (goodP l mx)) := by rw [Hid, HOKS.out, decide_eq_true hlen]; rfl
    clear HOKS
    have hlen' : ¬ (64 : Int) < (l.length : Int) := by omega
    go_enter Try.func34, Try.ntmps34
    go_wp2
    go_loopw [3] (fun i wr => ∃ k : Nat, k ≤ l.length ∧ i = .int .i64 k ∧ Hid (allB k (goodP l mx) = true) ∧ Hid (Below w0.heap.size w0 wr)) (fun i _ => l.length - (intOf i).toNat)
    case atStart => exact ⟨0, by omega, rfl, allB_zero _, Below.refl _ _⟩
    case round =>
      obtain ⟨k, hk, rfl, HA, HBW⟩ := hrel
      clear m2 m6
      obtain ⟨m2, m6⟩ := HM.out wr HBW.out
      by_cases hlt : k < l.length
      · obtain ⟨b, off, rfl, hc⟩ := HC.out wr k HBW.out hlt
        have HG : Hid (goodP l mx k = (inW (l.getD k Pr.zero).pid 1 4294967295 && inW (l.getD k Pr.zero).seq 1 1099511627775 && inW (l.getD k Pr.zero).off 0 (mx - 1) && (decide (k = 0) || decide ((l.getD (k - 1) Pr.zero).pid < (l.getD k Pr.zero).pid)))) := rfl
        have HB : Hid (goodP l mx k = false → R = false) := fun e => by rw [HR.out]; exact allB_bad hlt e
        have HS : Hid (goodP l mx k = true → allB (k + 1) (goodP l mx) = true) := fun e => allB_step HA.out e
        have HPV : Hid (∀ u, Below w0.heap.size w0 u → 0 < k → u.cell? ⟨b, off + (k - 1) * 3, none⟩ = some (.int .i64 (l.getD (k - 1) Pr.zero).pid)) := fun u hu h0 => by
          obtain ⟨b', o', e, hh⟩ := HC.out u (k - 1) hu (by omega)
          simp at e
          obtain ⟨rfl, rfl⟩ := e
          exact hh.c0
        generalize l.getD k Pr.zero = p at hc HG
        generalize (l.getD (k - 1) Pr.zero).pid = pv at HG HPV
        obtain ⟨pp, ps, po⟩ := p
        obtain ⟨c0, c1, c2⟩ := hc
        simp only at c0 c1 c2 HG
        generalize goodP l mx k = G at HG HB HS
        clear HA
        have hki : (k : Int) < (l.length : Int) := by omega
        obtain ⟨w1, hw1⟩ : ∃ w1, wr.alloc (.cells #[.int .i64 pp, .int .i64 ps, .int .i64 po] 56) = w1 := ⟨_, rfl⟩
        have HB1 : Hid (Below w0.heap.size w0 w1) := by rw [← hw1]; exact below_step HBW.out ((Below.refl _ _).alloc (Nat.le_refl _) _)
        have HD1 : Hid (∀ n, Below w0.heap.size w0 (w1.drewN n)) := fun n => ⟨HB1.out.os, HB1.out.tape, HB1.out.output, HB1.out.size, HB1.out.block⟩
        have d0 : w1.cell? ⟨wr.heap.size, 0, none⟩ = some (.int .i64 pp) := by rw [← hw1]; exact World.cell?_alloc_at _ _ _ _ rfl
        have d1 : w1.cell? ⟨wr.heap.size, 1, none⟩ = some (.int .i64 ps) := by rw [← hw1]; exact World.cell?_alloc_at _ _ _ _ rfl
        have d2 : w1.cell? ⟨wr.heap.size, 2, none⟩ = some (.int .i64 po) := by rw [← hw1]; exact World.cell?_alloc_at _ _ _ _ rfl
        obtain ⟨m2', m6'⟩ := HM.out w1 HB1.out
        cases h1 : inW pp 1 4294967295 with
        | false =>
          have HR1 : Hid (R = false) := HB.out (by rw [HG.out, h1]; rfl)
          clear HG HB HS
          go_wp2_with fail
          refine (rwithinOf pp 1 4294967295 _).mono ?_
          rintro e w2 ⟨rfl, rfl⟩
          rw [h1]
          go_wp2
          go_ret
          exact ⟨by rw [HR1.out]; rfl, below_step HB0.out HB1.out⟩
        | true =>
          cases h2 : inW ps 1 1099511627775 with
          | false =>
            have HR1 : Hid (R = false) := HB.out (by rw [HG.out, h1, h2]; rfl)
            clear HG HB HS
            go_wp2_with fail
            refine (rwithinOf pp 1 4294967295 _).mono ?_
            rintro e w2 ⟨rfl, rfl⟩
            rw [h1]
            go_wp2_with fail
            refine (rwithinOf ps 1 1099511627775 _).mono ?_
            rintro e w2 ⟨rfl, rfl⟩
            rw [h2]
            go_wp2
            go_ret
            exact ⟨by rw [HR1.out]; rfl, below_step HB0.out HB1.out⟩
          | true =>
            cases h3 : inW po 0 (mx - 1) with
            | false =>
              have HR1 : Hid (R = false) := HB.out (by rw [HG.out, h1, h2, h3]; rfl)
              clear HG HB HS
              go_wp2_with fail
              refine (rwithinOf pp 1 4294967295 _).mono ?_
              rintro e w2 ⟨rfl, rfl⟩
              rw [h1]
              go_wp2_with fail
              refine (rwithinOf ps 1 1099511627775 _).mono ?_
              rintro e w2 ⟨rfl, rfl⟩
              rw [h2]
              go_wp2_with fail
              refine (rwithinOf po 0 (mx - 1) _).mono ?_
              rintro e w2 ⟨rfl, rfl⟩
              rw [h3]
              go_wp2
              go_ret
              exact ⟨by rw [HR1.out]; rfl, below_step HB0.out HB1.out⟩
            | true =>
              rw [h1, h2, h3] at HG
              by_cases hk0 : k = 0
              · subst hk0
                have HS1 : Hid (allB (0 + 1) (goodP l mx) = true) := HS.out (by rw [HG.out]; rfl)
                clear HG HB HS
                simp only [Nat.zero_mul, Nat.add_zero] at c0 c1 c2
                go_wp2_with fail
                refine (rwithinOf pp 1 4294967295 _).mono ?_
                rintro e w2 ⟨rfl, rfl⟩
                rw [h1]
                go_wp2_with fail
                refine (rwithinOf ps 1 1099511627775 _).mono ?_
                rintro e w2 ⟨rfl, rfl⟩
                rw [h2]
                go_wp2_with fail
                refine (rwithinOf po 0 (mx - 1) _).mono ?_
                rintro e w2 ⟨rfl, rfl⟩
                rw [h3]
                go_wp2
                go_quiet (fail)
                go_wp2
                go_roundw
                case rel => exact ⟨1, by omega, by go_num, HS1.out, HD1.out _⟩
                case measure => simp [intOf]; omega
              · obtain ⟨k, rfl⟩ : ∃ q, k = q + 1 := ⟨k - 1, by omega⟩
                have p0 := HPV.out w1 HB1.out (by omega)
                simp only [Nat.add_sub_cancel] at p0
                have hwk : IntKind.i64.wrap (k : Int) = (k : Int) := IntWalk.i64_in _ (by omega)
                have hki1 : (k : Int) + 1 < (l.length : Int) := by omega
                have hki2 : (k : Int) < (l.length : Int) := by omega
                clear hki HPV
                by_cases hpv : pv < pp
                · have HS1 : Hid (allB (k + 1 + 1) (goodP l mx) = true) := HS.out (by rw [HG.out, decide_eq_true hpv]; simp)
                  clear HG HB HS
                  go_wp2_with fail
                  refine (rwithinOf pp 1 4294967295 _).mono ?_
                  rintro e w2 ⟨rfl, rfl⟩
                  rw [h1]
                  go_wp2_with fail
                  refine (rwithinOf ps 1 1099511627775 _).mono ?_
                  rintro e w2 ⟨rfl, rfl⟩
                  rw [h2]
                  go_wp2_with fail
                  refine (rwithinOf po 0 (mx - 1) _).mono ?_
                  rintro e w2 ⟨rfl, rfl⟩
                  rw [h3]
                  go_wp2
                  go_quiet (fail)
                  go_wp2
                  go_roundw
                  case rel => exact ⟨k + 1 + 1, by omega, by go_num, HS1.out, HD1.out _⟩
                  case measure => simp [intOf]; omega
                · have HR1 : Hid (R = false) := HB.out (by rw [HG.out, decide_eq_false hpv]; simp)
                  have hpv' : pp ≤ pv := by omega
                  clear HG HB HS
                  go_wp2_with fail
                  refine (rwithinOf pp 1 4294967295 _).mono ?_
                  rintro e w2 ⟨rfl, rfl⟩
                  rw [h1]
                  go_wp2_with fail
                  refine (rwithinOf ps 1 1099511627775 _).mono ?_
                  rintro e w2 ⟨rfl, rfl⟩
                  rw [h2]
                  go_wp2_with fail
                  refine (rwithinOf po 0 (mx - 1) _).mono ?_
                  rintro e w2 ⟨rfl, rfl⟩
                  rw [h3]
                  go_wp2
                  go_quiet (fail)
                  go_wp2
                  go_ret
                  exact ⟨by rw [HR1.out]; rfl, below_step HB0.out (HD1.out _)⟩
      · obtain rfl : k = l.length := by omega
        have HR1 : Hid (R = true) := by rw [Hid, HR.out]; exact HA.out
        clear HA
        go_wp2
        go_ret
        exact ⟨by rw [HR1.out]; rfl, below_step HB0.out HBW.out⟩
  · have HR : Hid (R = false) := by rw [Hid, HOKS.out, decide_eq_false hlen]; rfl
    have hlen' : (64 : Int) < (l.length : Int) := by omega
    go_enter Try.func34, Try.ntmps34
    go_wp2
    go_ret
    exact ⟨by rw [HR.out]; rfl, HB0.out⟩
end Go.Proofs.Ytpeejgnkdoeijaa
