import Derived.Test.YtpeejgnkdoeijaaMcB
/-! manifest: segments and producers that may be. -/
namespace Go.Proofs.Ytpeejgnkdoeijaa
open Go.RowKit Plain
set_option linter.unusedVariables false
set_option linter.unusedSimpArgs false

def goodS (l : List Int) (next : Int) (i : Nat) : Bool := inW (l.getD i 0) 1 (next - 1) && !((l.take i).contains (l.getD i 0))
def okSegs (l : List Int) (next : Int) : Bool := inW l.length 1 64 && allB l.length (goodS l next)
set_option maxHeartbeats 2000000 in
theorem areSegsOf (v : Value) (l : List Int) (next : Int) (w : World) (h : IntsAt w v l) (hn : 2 ≤ next ∧ next ≤ 1073741824) : Calls Try.prog 29 #[v, .int .i64 next] w fun e w' => e = .returned (.bool (okSegs l next)) ∧ w' = w := by
  have HT : Hid (∀ k, k ≤ l.length → ∀ a n c, v = .slice a n c → IntsAt w (.slice a k c) (l.take k)) := fun k hk a n c e => by subst e; exact h.take k hk
  obtain ⟨a, cap, rfl, hcap, hcl, hok, hcells⟩ := h
  have HC : Hid (l ≠ [] → ∃ b off, a = some ⟨b, off, none⟩ ∧ ∀ j, j < l.length → w.cell? ⟨b, off + j, none⟩ = some (.int .i64 (l.getD j 0))) := hcells
  have HOKS : Hid (okSegs l next = (inW l.length 1 64 && allB l.length (goodS l next))) := rfl
  generalize okSegs l next = R at HOKS ⊢
  clear hcells hok
  cases hlen : inW (l.length : Int) 1 64 with
  | false =>
    have HR : Hid (R = false) := by rw [Hid, HOKS.out, hlen]; rfl
    go_enter Try.func29, Try.ntmps29
    go_wp2_with fail
    refine (wintOf _ _ _ _).mono ?_
    rintro x w1 ⟨rfl, rfl⟩
    rw [hlen]
    go_wp2
    go_ret
    exact ⟨by rw [HR.out]; rfl, rfl⟩
  | true =>
    have HR : Hid (R = allB l.length (goodS l next)) := by rw [Hid, HOKS.out, hlen]; rfl
    clear HOKS
    go_enter Try.func29, Try.ntmps29
    go_wp2_with fail
    refine (wintOf _ _ _ _).mono ?_
    rintro x w1 ⟨rfl, rfl⟩
    rw [hlen]
    go_wp2
    go_loopw [13] (fun i wr => ∃ k : Nat, k ≤ l.length ∧ i = .int .i64 k ∧ Hid (allB k (goodS l next) = true) ∧ wr = w1) (fun i _ => l.length - (intOf i).toNat)
    case atStart => exact ⟨0, by omega, rfl, allB_zero _, rfl⟩
    case round =>
      obtain ⟨k, hk, rfl, HA, rfl⟩ := hrel
      by_cases hlt : k < l.length
      · obtain ⟨b, off, rfl, hc⟩ := HC.out (by rintro rfl; simp at hlt)
        have hck := hc k hlt
        have HTK : Hid (IntsAt wr (.slice (some ⟨b, off, none⟩) k cap) (l.take k)) := HT.out k hk _ _ _ rfl
        have HG : Hid (goodS l next k = (inW (l.getD k 0) 1 (next - 1) && !((l.take k).contains (l.getD k 0)))) := rfl
        have HB : Hid (goodS l next k = false → R = false) := fun e => by rw [HR.out]; exact allB_bad hlt e
        have HS : Hid (goodS l next k = true → allB (k + 1) (goodS l next) = true) := fun e => allB_step HA.out e
        generalize l.getD k 0 = x at hck HG
        generalize goodS l next k = G at HG HB HS
        clear hc HA HT
        have hki : (k : Int) < (l.length : Int) := by omega
        cases h1 : inW x 1 (next - 1) with
        | false =>
          have HR1 : Hid (R = false) := HB.out (by rw [HG.out, h1]; rfl)
          clear HG HB HS
          go_wp2_with fail
          refine (wintOf x 1 (next - 1) _).mono ?_
          rintro e w2 ⟨rfl, rfl⟩
          rw [h1]
          go_wp2
          go_ret
          exact ⟨by rw [HR1.out]; rfl, rfl⟩
        | true =>
          have HCO : Hid (Calls Try.prog 53 #[.slice (some ⟨b, off, none⟩) k cap, .int .i64 x] wr fun e w' => e = .returned (.bool ((l.take k).contains x)) ∧ w' = wr) := containsIOf _ _ x wr HTK.out
          generalize (l.take k).contains x = C at HG HCO
          cases C with
          | true =>
            have HR1 : Hid (R = false) := HB.out (by rw [HG.out, h1]; rfl)
            clear HG HB HS
            go_wp2_with fail
            refine (wintOf x 1 (next - 1) _).mono ?_
            rintro e w2 ⟨rfl, rfl⟩
            rw [h1]
            go_wp2_with fail
            refine HCO.out.mono ?_
            rintro e w2 ⟨rfl, rfl⟩
            go_wp2
            go_ret
            exact ⟨by rw [HR1.out]; rfl, rfl⟩
          | false =>
            have HS1 : Hid (allB (k + 1) (goodS l next) = true) := HS.out (by rw [HG.out, h1]; rfl)
            clear HG HB HS
            go_wp2_with fail
            refine (wintOf x 1 (next - 1) _).mono ?_
            rintro e w2 ⟨rfl, rfl⟩
            rw [h1]
            go_wp2_with fail
            refine HCO.out.mono ?_
            rintro e w2 ⟨rfl, rfl⟩
            go_wp2
            go_roundw
            case rel => exact ⟨k + 1, by omega, by go_num, HS1.out, by first | rfl | trivial⟩
            case measure => simp [intOf]; omega
      · obtain rfl : k = l.length := by omega
        have HR1 : Hid (R = true) := by rw [Hid, HR.out]; exact HA.out
        clear HA
        go_wp2
        go_ret
        exact ⟨by rw [HR1.out]; rfl, rfl⟩

/-- A manifest. -/
structure Mf where
  id : Int
  nseg : Int
  next : Int
  mark : Int
  clk : Int
  segs : List Int
  prods : List Pr
abbrev Mf.agg (m : Mf) (vs vp : Value) : Value := .agg #[.int .i64 m.id, .int .i64 m.nseg, .int .i64 m.next, .int .i64 m.mark, .int .i64 m.clk, vs, vp]
abbrev Mf.obj (m : Mf) (vs vp : Value) : Obj := .cells #[.int .i64 m.id, .int .i64 m.nseg, .int .i64 m.next, .int .i64 m.mark, .int .i64 m.clk, vs, vp] 25
theorem mobj_cells (w : World) (m : Mf) (vs vp : Value) {w0 : World} (h : w.alloc (m.obj vs vp) = w0) : w0.cell? ⟨w.heap.size, 0, none⟩ = some (.int .i64 m.id) ∧ w0.cell? ⟨w.heap.size, 1, none⟩ = some (.int .i64 m.nseg) ∧ w0.cell? ⟨w.heap.size, 2, none⟩ = some (.int .i64 m.next) ∧ w0.cell? ⟨w.heap.size, 3, none⟩ = some (.int .i64 m.mark) ∧ w0.cell? ⟨w.heap.size, 4, none⟩ = some (.int .i64 m.clk) ∧ w0.cell? ⟨w.heap.size, 5, none⟩ = some vs ∧ w0.cell? ⟨w.heap.size, 6, none⟩ = some vp := by
  subst h
  exact ⟨World.cell?_alloc_at _ _ _ _ rfl, World.cell?_alloc_at _ _ _ _ rfl, World.cell?_alloc_at _ _ _ _ rfl, World.cell?_alloc_at _ _ _ _ rfl, World.cell?_alloc_at _ _ _ _ rfl, World.cell?_alloc_at _ _ _ _ rfl, World.cell?_alloc_at _ _ _ _ rfl⟩
theorem goodS_eq (l : List Int) (next : Int) (i : Nat) : goodS l next i = (!(decide (l.getD i 0 < 1)) && !(decide (next ≤ l.getD i 0)) && !((l.take i).contains (l.getD i 0))) := by
  unfold goodS inW
  have e1 : decide (1 ≤ l.getD i 0) = !(decide (l.getD i 0 < 1)) := by rw [← decide_not]; exact decide_eq_decide.mpr (by omega)
  have e2 : decide (l.getD i 0 ≤ next - 1) = !(decide (next ≤ l.getD i 0)) := by rw [← decide_not]; exact decide_eq_decide.mpr (by omega)
  rw [e1, e2]
set_option maxHeartbeats 4000000 in
theorem segsRightOf (m : Mf) (vs vp : Value) (w : World) (h : IntsAt w vs m.segs) : Calls Try.prog 33 #[m.agg vs vp] w fun e w' => e = .returned (.bool (okSegs m.segs m.nseg)) ∧ Below w.heap.size w w' := by
  obtain ⟨w0, hw0⟩ : ∃ w0, w.alloc (m.obj vs vp) = w0 := ⟨_, rfl⟩
  have HB0 : Hid (Below w.heap.size w w0) := by rw [← hw0]; exact (Below.refl _ _).alloc (Nat.le_refl _) _
  have HM : Hid (∀ u, Below w0.heap.size w0 u → u.cell? ⟨w.heap.size, 1, none⟩ = some (.int .i64 m.nseg) ∧ u.cell? ⟨w.heap.size, 5, none⟩ = some vs) := fun u hu => by
    obtain ⟨-, m1, -, -, -, m5, -⟩ := mobj_cells w m vs vp hw0
    exact ⟨(hu.cell (p := ⟨w.heap.size, 1, none⟩) (cell_lt m1)).trans m1, (hu.cell (p := ⟨w.heap.size, 5, none⟩) (cell_lt m5)).trans m5⟩
  obtain ⟨m1, m5⟩ := HM.out w0 (Below.refl _ _)
  obtain ⟨mi, mn, mx, mk, mc, l, ps⟩ := m
  simp only at h hw0 m1 m5 HM ⊢
  obtain ⟨a, cap, rfl, hcap, hcl, hok, hcells⟩ := h.later HB0.out
  have HC : Hid (l ≠ [] → ∃ b off, a = some ⟨b, off, none⟩ ∧ ∀ u j, Below w0.heap.size w0 u → j < l.length → u.cell? ⟨b, off + j, none⟩ = some (.int .i64 (l.getD j 0))) := fun hne => by
    obtain ⟨b, off, e, hc⟩ := hcells hne
    exact ⟨b, off, e, fun u j hu hj => (hu.cell (p := ⟨b, off + j, none⟩) (cell_lt (hc j hj))).trans (hc j hj)⟩
  have HOKS : Hid (okSegs l mn = (inW l.length 1 64 && allB l.length (goodS l mn))) := rfl
  generalize okSegs l mn = R at HOKS ⊢
  clear hcells hok h
  unfold Mf.agg
  by_cases h1 : l.length < 1
  · have HR : Hid (R = false) := by
      rw [Hid, HOKS.out]; unfold inW
      have : ¬ (1 : Int) ≤ (l.length : Int) := by omega
      simp [this]
    have h1i : (l.length : Int) < 1 := by omega
    go_enter Try.func33, Try.ntmps33
    go_wp2
    go_ret
    exact ⟨by rw [HR.out]; rfl, HB0.out⟩
  · by_cases h2 : 64 < l.length
    · have HR : Hid (R = false) := by
        rw [Hid, HOKS.out]; unfold inW
        have : ¬ (l.length : Int) ≤ 64 := by omega
        simp [this]
      have h1i : ¬ (l.length : Int) < 1 := by omega
      have h2i : (64 : Int) < (l.length : Int) := by omega
      go_enter Try.func33, Try.ntmps33
      go_wp2
      go_ret
      exact ⟨by rw [HR.out]; rfl, HB0.out⟩
    · have HR : Hid (R = allB l.length (goodS l mn)) := by
        rw [Hid, HOKS.out]; unfold inW
        have e1 : (1 : Int) ≤ (l.length : Int) := by omega
        have e2 : (l.length : Int) ≤ 64 := by omega
        simp [e1, e2]
      have h1i : ¬ (l.length : Int) < 1 := by omega
      have h2i : ¬ (64 : Int) < (l.length : Int) := by omega
      go_enter Try.func33, Try.ntmps33
      go_wp2
      go_loopw [3] (fun i wr => ∃ k : Nat, k ≤ l.length ∧ i = .int .i64 k ∧ Hid (allB k (goodS l mn) = true) ∧ Hid (Below w0.heap.size w0 wr)) (fun i _ => l.length - (intOf i).toNat)
      case atStart => exact ⟨0, by omega, rfl, allB_zero _, Below.refl _ _⟩
      case round =>
        obtain ⟨k, hk, rfl, HA, HBW⟩ := hrel
        clear m1 m5
        obtain ⟨m1, m5⟩ := HM.out wr HBW.out
        by_cases hlt : k < l.length
        · obtain ⟨b, off, rfl, hc⟩ := HC.out (by rintro rfl; simp at hlt)
          have hck := hc wr k HBW.out hlt
          have HG : Hid (goodS l mn k = (!(decide (l.getD k 0 < 1)) && !(decide (mn ≤ l.getD k 0)) && !((l.take k).contains (l.getD k 0)))) := goodS_eq l mn k
          have HB : Hid (goodS l mn k = false → R = false) := fun e => by rw [HR.out]; exact allB_bad hlt e
          have HS : Hid (goodS l mn k = true → allB (k + 1) (goodS l mn) = true) := fun e => allB_step HA.out e
          have HCC : Hid (∀ u j, Below w0.heap.size w0 u → j < l.length → u.cell? ⟨b, off + j, none⟩ = some (.int .i64 (l.getD j 0))) := hc
          generalize hxe : l.getD k 0 = x at hck HG
          have HXE : Hid (l.getD k 0 = x) := hxe
          clear hxe
          generalize goodS l mn k = G at HG HB HS
          clear hc HA
          have hki : (k : Int) < (l.length : Int) := by omega
          have HDR : Hid (∀ n, Below w0.heap.size w0 (wr.drewN n)) := fun n => ⟨HBW.out.os, HBW.out.tape, HBW.out.output, HBW.out.size, HBW.out.block⟩
          by_cases hx1 : x < 1
          · have HR1 : Hid (R = false) := HB.out (by rw [HG.out, decide_eq_true hx1]; rfl)
            clear HG HB HS
            go_wp2
            go_quiet (fail)
            go_wp2
            go_ret
            exact ⟨by rw [HR1.out]; rfl, below_step HB0.out (HDR.out _)⟩
          · by_cases hx2 : mn ≤ x
            · have HR1 : Hid (R = false) := HB.out (by rw [HG.out, decide_eq_false hx1, decide_eq_true hx2]; rfl)
              clear HG HB HS
              go_wp2
              go_quiet (fail)
              go_wp2
              go_ret
              exact ⟨by rw [HR1.out]; rfl, below_step HB0.out (HDR.out _)⟩
            · have HG1 : Hid (G = !((l.take k).contains x)) := by rw [Hid, HG.out, decide_eq_false hx1, decide_eq_false hx2]; rfl
              clear HG
              go_wp2
              go_quiet (fail)
              go_wp2
              clear m1 m5 hck
              go_loopw [4] (fun i2 wr2 => ∃ q : Nat, q ≤ k ∧ i2 = .int .i64 q ∧ Hid ((l.take q).contains x = false) ∧ Hid (Below w0.heap.size w0 wr2)) (fun i2 _ => k - (intOf i2).toNat)
              case atStart => exact ⟨0, by omega, rfl, by simp [Hid], HDR.out _⟩
              case round =>
                obtain ⟨q, hq, rfl, HQ, HBQ⟩ := hrel
                have HDQ : Hid (∀ n, Below w0.heap.size w0 (wr.drewN n)) := fun n => ⟨HBQ.out.os, HBQ.out.tape, HBQ.out.output, HBQ.out.size, HBQ.out.block⟩
                obtain ⟨m1, m5⟩ := HM.out wr HBQ.out
                have hck := HCC.out wr k HBQ.out hlt
                rw [HXE.out] at hck
                by_cases hqk : q < k
                · have hcq := HCC.out wr q HBQ.out (by omega)
                  have HT : Hid ((l.take (q + 1)).contains x = (l.getD q 0 == x)) := by unfold Hid; rw [take_has (by omega), HQ.out]; simp
                  have HTT : Hid ((l.take (q + 1)).contains x = true → R = false) := fun e => HB.out (by
                    rw [HG1.out]
                    have : x ∈ l.take k := by
                      have h1 := List.contains_iff_mem.mp e
                      exact List.take_subset_take_left _ hqk h1
                    rw [List.contains_iff_mem.mpr this]; rfl)
                  generalize l.getD q 0 = y at hcq HT
                  have hqi : (q : Int) < (k : Int) := by omega
                  have hqi2 : (q : Int) < (l.length : Int) := by omega
                  by_cases hyx : y = x
                  · subst hyx
                    have HR1 : Hid (R = false) := HTT.out (by rw [HT.out]; simp)
                    clear HG1 HB HS HT HTT
                    go_wp2
                    go_quiet (fail)
                    go_wp2
                    go_ret
                    exact ⟨by rw [HR1.out]; rfl, below_step HB0.out (HDQ.out _)⟩
                  · have hyx' : (y == x) = false := by simpa using hyx
                    have HT1 : Hid ((l.take (q + 1)).contains x = false) := by rw [Hid, HT.out, hyx']
                    clear HT HTT
                    go_wp2
                    go_quiet (fail)
                    go_wp2
                    go_roundw
                    case rel => exact ⟨q + 1, by omega, by go_num, HT1.out, HDQ.out _⟩
                    case measure => simp [intOf]; omega
                · obtain rfl : q = k := by omega
                  have HS1 : Hid (allB (q + 1) (goodS l mn) = true) := HS.out (by rw [HG1.out, HQ.out]; rfl)
                  clear HG1 HB HS
                  go_wp2
                  go_roundw
                  case rel => exact ⟨q + 1, by omega, by go_num, HS1.out, HBQ.out⟩
                  case measure => simp [intOf]; omega
        · obtain rfl : k = l.length := by omega
          have HR1 : Hid (R = true) := by rw [Hid, HR.out]; exact HA.out
          clear HA
          go_wp2
          go_ret
          exact ⟨by rw [HR1.out]; rfl, below_step HB0.out HBW.out⟩
end Go.Proofs.Ytpeejgnkdoeijaa
