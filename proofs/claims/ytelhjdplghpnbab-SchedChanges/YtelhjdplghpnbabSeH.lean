import Derived.Test.YtelhjdplghpnbabSeG
import Derived.BigRegion
/-! The law's moved and back: other numbers in the lists' places, and what is to stand there. -/
namespace Go.Proofs.Ytelhjdplghpnbab
open Go.RowKit Plain
set_option linter.unusedVariables false
set_option linter.unusedSimpArgs false

theorem wrapI (z : Int) : I64 (IntKind.i64.wrap z) := by rw [IntKind.wrap_i64]; constructor <;> omega
/-- The same turns but for ids and costs. -/
structure Like (t t' : Tr) : Prop where
  len : t'.qs.length = t.qs.length
  at_ : t'.at' = t.at'
  fr : t'.fresh = t.fresh
  same : ∀ j, j < t.qs.length → (t'.q j).quantum = (t.q j).quantum ∧ (t'.q j).deficit = (t.q j).deficit ∧ (t'.q j).costs.length = (t.q j).costs.length
theorem Like.refl (t : Tr) : Like t t := ⟨rfl, rfl, rfl, fun _ _ => ⟨rfl, rfl, rfl⟩⟩
theorem Like.set {t : Tr} {l : List Qu} {z : Int} {f : Bool} (h : Like t ⟨l, z, f⟩) {i : Nat} (hi : i < l.length) (x : Qu) (h1 : x.quantum = (l.getD i Qu.zero).quantum) (h2 : x.deficit = (l.getD i Qu.zero).deficit) (h3 : x.costs.length = (l.getD i Qu.zero).costs.length) : Like t ⟨l.set i x, z, f⟩ := by
  refine ⟨by simpa using h.len, h.at_, h.fr, fun j hj => ?_⟩
  rw [Tr.q_set hi]
  by_cases e : j = i
  · subst e
    rw [if_pos rfl, h1, h2, h3]
    exact h.same j hj
  · rw [if_neg e]; exact h.same j hj
/-- Within moved and back: the boxes B and R beside the turns that are written. -/
structure MvS (base : Nat) (w u : World) (B R g n cap : Nat) (t : Tr) (vs : List Qv) (rs : List (Option Nat)) (bt : Tr) (bv : Value) (rt : Tr) (rv : Value) : Prop where
  rm : Rm base u g n cap t vs rs
  bb : BoxT u B bv bt
  rb : BoxT u R rv rt
  below : Below base w u
  lim : g < B ∧ g < R ∧ ∀ j, j < n → ∀ b, rs.getD j none = some b → b < B ∧ b < R
  fr : ∀ k, k < w.heap.size → k ≠ g → (∀ j, j < n → rs.getD j none ≠ some k) → u.heap[k]? = w.heap[k]?
theorem MvS.drawn {base : Nat} {w u : World} {B R g n cap : Nat} {t : Tr} {vs : List Qv} {rs : List (Option Nat)} {bt : Tr} {bv : Value} {rt : Tr} {rv : Value} (h : MvS base w u B R g n cap t vs rs bt bv rt rv) (m : Nat) : MvS base w (u.drewN m) B R g n cap t vs rs bt bv rt rv := by
  have hb := below_drawn u m
  exact ⟨h.rm.later hb, h.bb.later hb, h.rb.later hb, h.below.trans ⟨hb.os, hb.tape, hb.output, hb.size, fun k hk => rfl⟩, h.lim, h.fr⟩
theorem MvS.drew {base : Nat} {w u : World} {B R g n cap : Nat} {t : Tr} {vs : List Qv} {rs : List (Option Nat)} {bt : Tr} {bv : Value} {rt : Tr} {rv : Value} (h : MvS base w u B R g n cap t vs rs bt bv rt rv) : MvS base w u.drew B R g n cap t vs rs bt bv rt rv := by
  have hb : Below u.heap.size u u.drew := Below.drew (Below.refl _ _)
  exact ⟨h.rm.later hb, h.bb.later hb, h.rb.later hb, h.below.trans ⟨hb.os, hb.tape, hb.output, hb.size, fun k hk => rfl⟩, h.lim, h.fr⟩
theorem MvS.setId {base : Nat} {w u : World} {B R g n cap : Nat} {l : List Qu} {z : Int} {f : Bool} {vs : List Qv} {rs : List (Option Nat)} {bt : Tr} {bv : Value} {rt : Tr} {rv : Value} (h : MvS base w u B R g n cap ⟨l, z, f⟩ vs rs bt bv rt rv) {i : Nat} (hi : i < n) (y : Int) (hy : I64 y) : ∃ vs', MvS base w (u.setCell ⟨g, i * 4, none⟩ (.int .i64 y)) B R g n cap ⟨l.set i ⟨y, (l.getD i Qu.zero).quantum, (l.getD i Qu.zero).deficit, (l.getD i Qu.zero).costs⟩, z, f⟩ vs' rs bt bv rt rv := by
  obtain ⟨vs', h1, h2, h3, kk⟩ := h.rm.setId hi y hy
  obtain ⟨l1, l2, l3⟩ := h.lim
  exact ⟨vs', h1, h.bb.block (kk.block B h.bb.lt (by simp; omega)) kk.size, h.rb.block (kk.block R h.rb.lt (by simp; omega)) kk.size, h.below.trans h3, h.lim, fun k hk hg hr => (kk.block k (by have := h.below.size; omega) (by simpa using hg)).trans (h.fr k hk hg hr)⟩
theorem MvS.setCost {base : Nat} {w u : World} {B R g n cap : Nat} {l : List Qu} {z : Int} {f : Bool} {vs : List Qv} {rs : List (Option Nat)} {bt : Tr} {bv : Value} {rt : Tr} {rv : Value} (h : MvS base w u B R g n cap ⟨l, z, f⟩ vs rs bt bv rt rv) {i k : Nat} (hi : i < n) (hk : k < (l.getD i Qu.zero).costs.length) (y : Int) (hy : I64 y) :
    ∃ b off, (vs.getD i Qv.zero).sl.1 = some ⟨b, off, none⟩ ∧ u.frozen? ⟨b, off + k, none⟩ = false ∧ u.cell? ⟨b, off + k, none⟩ = some (.int .i64 ((l.getD i Qu.zero).costs.getD k 0)) ∧ MvS base w (u.setCell ⟨b, off + k, none⟩ (.int .i64 y)) B R g n cap ⟨l.set i ⟨(l.getD i Qu.zero).id, (l.getD i Qu.zero).quantum, (l.getD i Qu.zero).deficit, (l.getD i Qu.zero).costs.set k y⟩, z, f⟩ vs rs bt bv rt rv := by
  obtain ⟨b, off, e1, e2, e3, e4, e5, e6, kk⟩ := h.rm.setCost hi hk y hy
  obtain ⟨l1, l2, l3⟩ := h.lim
  obtain ⟨m1, m2⟩ := l3 i hi b e6
  exact ⟨b, off, e1, e2, e3, e4, h.bb.block (kk.block B h.bb.lt (by simp; omega)) kk.size, h.rb.block (kk.block R h.rb.lt (by simp; omega)) kk.size, h.below.trans e5, h.lim, fun k hk hg hr => (kk.block k (by have := h.below.size; omega) (fun e => hr i hi (by rw [e6]; first | exact e | exact e.symm))).trans (h.fr k hk hg hr)⟩
/-- What the law's moved answers. -/
def MovP (base : Nat) (t : Tr) (g n cap : Nat) (rs : List (Option Nat)) (w : World) (e : Ending) (w' : World) : Prop := ∃ t' vs', e = .returned (.agg #[.slice (some ⟨g, 0, none⟩) n cap, .int .i64 t.at', .bool t.fresh]) ∧ Like t t' ∧ Rm base w' g n cap t' vs' rs ∧ Below base w w' ∧ ∀ k, k < w.heap.size → k ≠ g → (∀ j, j < n → rs.getD j none ≠ some k) → w'.heap[k]? = w.heap[k]?
set_option maxHeartbeats 8000000 in
set_option maxRecDepth 100000 in
theorem lmovedOf (base g n cap : Nat) (t : Tr) (vs : List Qv) (rs : List (Option Nat)) (w : World) (h : Rm base w g n cap t vs rs) : Calls Try.prog 5 #[turV (.slice (some ⟨g, 0, none⟩) n cap) t] w (MovP base t g n cap rs w) := by
  obtain ⟨l0, z, f⟩ := t
  unfold turV
  simp only
  obtain ⟨w0, hw0⟩ : ∃ w0, w.alloc (.cells #[.slice (some ⟨g, 0, none⟩) n cap, .int .i64 z, .bool f] 24) = w0 := ⟨_, rfl⟩
  obtain ⟨w1, hw1⟩ : ∃ w1, w0.alloc (.cells #[.slice none 0 0, .int .i64 0, .bool false] 24) = w1 := ⟨_, rfl⟩
  obtain ⟨B, hB⟩ : ∃ B, w.heap.size = B := ⟨_, rfl⟩
  have s0 : w0.heap.size = B + 1 := by rw [← hw0, ← hB]; simp
  have HS : Hid (MvS base w w1 B (B + 1) g n cap ⟨l0, z, f⟩ vs rs ⟨l0, z, f⟩ (.slice (some ⟨g, 0, none⟩) n cap) Tr.zero (.slice none 0 0)) := by
    have b0 := (turBox w (.slice (some ⟨g, 0, none⟩) n cap) z f).1
    have x0 := BoxT.new w (.slice (some ⟨g, 0, none⟩) n cap) ⟨l0, z, f⟩ z f rfl rfl
    rw [hw0] at b0 x0
    rw [hB] at x0
    have b1 := (turBox w0 (.slice none 0 0) 0 false).1
    have x1 := BoxT.new w0 (.slice none 0 0) Tr.zero 0 false rfl rfl
    rw [hw1] at b1 x1
    rw [s0] at x1
    have hg := h.mem.row.lt
    have hbs : base ≤ w.heap.size := by have := h.mem.new g rfl; omega
    have hbb := below_of b0 b1
    refine ⟨h.later hbb, x0.later b1, x1, ⟨hbb.os, hbb.tape, hbb.output, hbb.size, fun k hk => hbb.block k (by omega)⟩, ⟨by omega, by omega, fun j hj b e => ?_⟩, fun k hk _ _ => hbb.block k (by omega)⟩
    have := h.row hj
    rw [e] at this
    have := this.lt
    omega
  have hn : n = l0.length := h.n_
  have hfew := h.few
  have HN := Hid.mkT hn
  clear h hn
  obtain ⟨p0, p1, p2, -, -⟩ := HS.out.bb
  simp only at p1 p2
  go_enter Try.func5, Try.ntmps5
  go_wp2
  go_loopw [3] (fun s3 u => ∃ (i : Nat) (l : List Qu) (vs' : List Qv), i ≤ n ∧ s3 = .int .i64 i ∧ Hid (MvS base w u B (B + 1) g n cap ⟨l, z, f⟩ vs' rs ⟨l0, z, f⟩ (.slice (some ⟨g, 0, none⟩) n cap) Tr.zero (.slice none 0 0)) ∧ Hid (Like ⟨l0, z, f⟩ ⟨l, z, f⟩)) (fun s3 _ => n - (intOf s3).toNat)
  case atStart => exact ⟨0, l0, vs, by omega, rfl, HS.out, Like.refl _⟩
  case round =>
    obtain ⟨i, l, vs', hi, rfl, HM, HLk⟩ := hrel
    clear p0 p1 p2
    obtain ⟨p0, p1, p2, -, -⟩ := HM.out.bb
    simp only at p1 p2
    by_cases hin : i < n
    · have hini : (i : Int) < (n : Int) := by omega
      have HIL : Hid (i < l.length) := by have := HM.out.rm.n_; simp only at this; unfold Hid; omega
      obtain ⟨c0, c1, c2, c3⟩ := HM.out.rm.cell (j := i) (by omega)
      obtain ⟨a1, a2, a3, a4⟩ := HM.out.rm.same i hin
      have f0 := HM.out.rm.mem.row.fz (j := i * 4) (by have := HM.out.rm.len; omega)
      rw [a1] at c0
      have HSI := Hid.mkT (fun y hy => HM.out.setId hin y hy)
      obtain ⟨xi, hxi⟩ : ∃ xi, ((Tr.mk l z f).q i).id = xi := ⟨_, rfl⟩
      rw [hxi] at c0
      obtain ⟨y, hy⟩ : ∃ y, IntKind.i64.wrap (xi + 1) = y := ⟨_, rfl⟩
      have hyI : I64 y := by rw [← hy]; exact wrapI _
      clear hxi a1 a2 a3 a4 c1 c2 c3
      obtain ⟨vs1, hm1⟩ := HSI.out y hyI
      have HM1 := Hid.mkT hm1.drew
      obtain ⟨u1, hu1⟩ : ∃ u1, (wr.setCell ⟨g, i * 4, none⟩ (.int .i64 y)).drew = u1 := ⟨_, rfl⟩
      rw [hu1] at HM1
      have HLk1 := Hid.mkT (HLk.out.set HIL.out ⟨y, (l.getD i Qu.zero).quantum, (l.getD i Qu.zero).deficit, (l.getD i Qu.zero).costs⟩ rfl rfl rfl)
      generalize l.set i ⟨y, (l.getD i Qu.zero).quantum, (l.getD i Qu.zero).deficit, (l.getD i Qu.zero).costs⟩ = l1 at *
      have hN : (l1.getD i Qu.zero).costs.length ≤ 17592186043904 := (HM1.out.rm.cok i hin).1
      obtain ⟨N, hNN⟩ : ∃ N, (l1.getD i Qu.zero).costs.length = N := ⟨_, rfl⟩
      rw [hNN] at hN
      have HNN := Hid.mkT hNN
      clear hm1 HSI HLk HM hNN
      go_wp2
      go_region
      clear p0 p1 p2 c0 f0 hy hyI
      go_wp2
      go_loopw [4] (fun s4 u => ∃ (k : Nat) (l' : List Qu) (vs' : List Qv), k ≤ N ∧ s4 = .int .i64 k ∧ Hid (MvS base w u B (B + 1) g n cap ⟨l', z, f⟩ vs' rs ⟨l0, z, f⟩ (.slice (some ⟨g, 0, none⟩) n cap) Tr.zero (.slice none 0 0)) ∧ Hid (Like ⟨l0, z, f⟩ ⟨l', z, f⟩) ∧ Hid ((l'.getD i Qu.zero).costs.length = N)) (fun s4 _ => N - (intOf s4).toNat)
      case atStart => exact ⟨0, l1, vs1, by omega, rfl, HM1.out, HLk1.out, HNN.out⟩
      case round =>
        obtain ⟨k, l', vs2, hk, rfl, HM2, HLk2, HNN2⟩ := hrel
        obtain ⟨p0, p1, p2, -, -⟩ := HM2.out.bb
        simp only at p1 p2
        obtain ⟨-, -, -, c3⟩ := HM2.out.rm.cell (j := i) (by omega)
        obtain ⟨-, -, -, a4⟩ := HM2.out.rm.same i hin
        have a5 : (vs2.getD i Qv.zero).sl.2.1 = N := by rw [a4]; exact HNN2.out
        rw [a5] at c3
        clear a4 a5
        by_cases hkN : k < N
        · have hkNi : (k : Int) < (N : Int) := by omega
          obtain ⟨x, hx⟩ : ∃ x, (l'.getD i Qu.zero).costs.getD k 0 = x := ⟨_, rfl⟩
          obtain ⟨y2, hy2⟩ : ∃ y, IntKind.i64.wrap (x + 1) = y := ⟨_, rfl⟩
          have hyI : I64 y2 := by rw [← hy2]; exact wrapI _
          obtain ⟨b, off, e1, e2, e3, e4⟩ := HM2.out.setCost hin (k := k) (by rw [HNN2.out]; exact hkN) y2 hyI
          rw [e1] at c3
          rw [hx] at e3
          generalize (vs2.getD i Qv.zero).sl.2.2 = cc at *
          have hil2 : i < l'.length := by have := HM2.out.rm.n_; simp only at this; omega
          have HM3 := Hid.mkT e4.drew
          have HLk3 := Hid.mkT (HLk2.out.set hil2 ⟨(l'.getD i Qu.zero).id, (l'.getD i Qu.zero).quantum, (l'.getD i Qu.zero).deficit, (l'.getD i Qu.zero).costs.set k y2⟩ rfl rfl (by simp))
          have HNN3 : Hid (((l'.set i ⟨(l'.getD i Qu.zero).id, (l'.getD i Qu.zero).quantum, (l'.getD i Qu.zero).deficit, (l'.getD i Qu.zero).costs.set k y2⟩).getD i Qu.zero).costs.length = N) := by
            unfold Hid
            rw [getD_set _ _ _ _ _ hil2, if_pos rfl]
            simp only [List.length_set]
            exact HNN2.out
          generalize l'.set i ⟨(l'.getD i Qu.zero).id, (l'.getD i Qu.zero).quantum, (l'.getD i Qu.zero).deficit, (l'.getD i Qu.zero).costs.set k y2⟩ = l2 at *
          clear e1 e4 hx HM2 HLk2 HNN2 hyI
          go_wp2
          go_region
          go_wp2
          go_roundw
          case rel => exact ⟨k + 1, l2, vs2, by omega, by go_num, HM3.out, HLk3.out, HNN3.out⟩
          case measure => simp only [intOf]; omega
        · have hkNi : ¬ (k : Int) < (N : Int) := by omega
          go_wp2
          go_roundw
          case rel => exact ⟨i + 1, l', vs2, by omega, by go_num, HM2.out, HLk2.out⟩
          case measure => simp only [intOf]; omega
    · have hini : ¬ (i : Int) < (n : Int) := by omega
      obtain ⟨r0, r1, r2, rf, -⟩ := HM.out.rb
      have rf0 := rf 0 (by omega)
      have rf1 := rf 1 (by omega)
      have rf2 := rf 2 (by omega)
      simp only [Tr.zero] at r1 r2
      obtain ⟨q1, q2⟩ := HM.out.rb.store (.slice (some ⟨g, 0, none⟩) n cap) ⟨l0, z, f⟩
      simp only at q1 q2
      obtain ⟨U, hU⟩ : ∃ U, ((wr.setCell ⟨B + 1, 0, none⟩ (.slice (some ⟨g, 0, none⟩) n cap)).setCell ⟨B + 1, 1, none⟩ (.int .i64 z)).setCell ⟨B + 1, 2, none⟩ (.bool f) = U := ⟨_, rfl⟩
      have hU2 : storeT wr (B + 1) (.slice (some ⟨g, 0, none⟩) n cap) z f = U := hU
      rw [hU2] at q1 q2
      clear hU2
      have HF : Hid (MovP base ⟨l0, z, f⟩ g n cap rs w (.returned (.agg #[.slice (some ⟨g, 0, none⟩) n cap, .int .i64 z, .bool f])) U) := by
        obtain ⟨l1, l2, l3⟩ := HM.out.lim
        have h := HM.out.rm
        have hbs : base ≤ B + 1 := by have := h.mem.new g rfl; omega
        refine ⟨⟨l, z, f⟩, vs', rfl, HLk.out, ⟨h.mem.kept q2 (fun g' e e2 => by simp at e e2; omega) (fun j hj g' e e2 => ?_), h.len, h.n_, h.same, h.m1, h.m2, h.vok, h.cok, h.few, h.at_⟩, HM.out.below.trans ((Below.refl base wr).grown q2 (by have := HM.out.rb.lt; omega) (fun g' e => by simp at e; omega)), fun k hk h1 h2 => (q2.block k (by have := HM.out.below.size; omega) (by simp; omega)).trans (HM.out.fr k hk h1 h2)⟩
        have hj2 : j < n := by have := h.n_; simp only at this; simp only [List.length_map] at hj; omega
        have := (l3 j hj2 g' e).2
        simp at e2
        omega
      obtain ⟨z0, z1, z2, -, -⟩ := q1
      simp only at z1 z2
      clear rf q2 HM HLk
      go_wp2
      refine bodyPost_ret (v := .agg #[.slice (some ⟨g, 0, none⟩) n cap, .int .i64 z, .bool f]) ?hres rfl ?_
      case hres =>
        rw [results_cell1 rfl]
        go_simp
      exact HF.out
end Go.Proofs.Ytelhjdplghpnbab
