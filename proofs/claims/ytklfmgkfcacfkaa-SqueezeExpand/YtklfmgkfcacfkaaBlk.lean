import Derived.Test.YtklfmgkfcacfkaaSw
import Derived.Test.YtklfmgkfcacfkaaGre
namespace Go.Proofs.Ytklfmgkfcacfkaa
open Go.RowKit Plain
set_option linter.unusedVariables false
set_option linter.unusedSimpArgs false

def Tk.enc (t : Tk) : List Nat := t.pick (fun _ b => uv (2 * b.length) ++ b) (fun d n => uv (2 * n + 1) ++ uv d)
theorem Tk.enc_lit (g : Nat) (b : List Nat) : (Tk.lit g b).enc = uv (2 * b.length) ++ b := rfl
theorem Tk.enc_mat (d n : Nat) : (Tk.mat d n).enc = uv (2 * n + 1) ++ uv d := rfl
def blk (n : Nat) (ts : List Tk) : List Nat := uv n ++ ts.flatMap Tk.enc

/-- Tokens that fit. -/
def Tk.fits (t : Tk) : Prop := t.pick (fun _ b => b.length ≤ 4096) (fun d n => d ≤ 4096 ∧ n ≤ 4096)
theorem Tk.fits_lit (g : Nat) (b : List Nat) : (Tk.lit g b).fits = (b.length ≤ 4096) := rfl
theorem Tk.fits_mat (d n : Nat) : (Tk.mat d n).fits = (d ≤ 4096 ∧ n ≤ 4096) := rfl

theorem Tk.enc_len (t : Tk) (h : t.fits) : t.enc.length ≤ 5000 := by
  cases t using Tk.elim with
  | lit g b => have := uv_len10 (v := 2 * b.length) (by simp only [Tk.fits_lit, Tk.fits_mat] at h; omega); simp only [Tk.enc_lit, Tk.enc_mat, Tk.fits_lit, Tk.fits_mat, List.length_append] at *; omega
  | mat d n => 
    have h1 := uv_len10 (v := 2 * n + 1) (by simp only [Tk.fits_lit, Tk.fits_mat] at h; omega)
    have h2 := uv_len10 (v := d) (by simp only [Tk.fits_lit, Tk.fits_mat] at h; omega)
    simp only [Tk.enc_lit, Tk.enc_mat, Tk.fits_lit, Tk.fits_mat, List.length_append] at *; omega

theorem encs_len (ts : List Tk) (h : ∀ t ∈ ts, t.fits) : (ts.flatMap Tk.enc).length ≤ 5000 * ts.length := by
  induction ts with
  | nil => simp
  | cons t ts ih =>
    have h1 := ih fun x hx => h x (List.mem_cons_of_mem _ hx)
    have h2 := t.enc_len (h t (by simp))
    rw [List.flatMap_cons, List.length_append, List.length_cons]
    omega

set_option maxHeartbeats 400000 in
theorem newWriter (w : World) : Calls Try.prog 55 #[] w fun e w' => e = .returned (.pointer (some ⟨w.heap.size, 0, none⟩)) ∧ WAt w' w.heap.size [] none ∧ Below w.heap.size w w' ∧ w'.heap.size = w.heap.size + 1 := by
  go_enter Try.func55, Try.ntmps55
  go_wp2
  go_ret
  refine ⟨rfl, ⟨.slice none 0 0, ?_, ?_, Own.nil _, by simp⟩, (Below.refl _ _).alloc (Nat.le_refl _) _, by simp⟩
  · rw [World.cell?_alloc_at _ _ _ _ rfl]; rfl
  · exact World.frozen?_alloc_at _ _ _ _ rfl

theorem WAt.rlt {w : World} {b : Nat} {data : List Nat} {r : Option Nat} (h : WAt w b data r) : ∀ g, r = some g → g < w.heap.size := by
  obtain ⟨dv, _, _, ho, _⟩ := h
  rintro g rfl
  exact ho.lt

/-- What a writer's step leaves, below B. -/
theorem WPost.step {B : Nat} {w0 w w' : World} {b : Nat} {data : List Nat} {r : Option Nat} (hB : Below B w0 w) (hb : B ≤ b) (hbw : b < w.heap.size) (hr : ∀ g, r = some g → B ≤ g) (hp : WPost w w' b data r) :
    ∃ r', WAt w' b data r' ∧ Below B w0 w' ∧ (∀ g, r' = some g → B ≤ g) ∧ w.heap.size ≤ w'.heap.size ∧ ∀ k, k < w.heap.size → k ≠ b → some k ≠ r → w'.heap[k]? = w.heap[k]? := by
  obtain ⟨r', h1, h2, h3⟩ := hp
  refine ⟨r', h1, hB.trans (h2.below (by omega) hb hr), fun g e => ?_, h2.size, h2.block⟩
  rcases h3 with rfl | ⟨g', rfl, hg⟩
  · exact hr g e
  · simp at e; omega

theorem calls_cast {f : Nat} {x : Value} {a b : Int} {w : World} {Q : Ending → World → Prop} (e : a = b) (h : Calls Try.prog f #[x, .int .u64 a] w Q) : Calls Try.prog f #[x, .int .u64 b] w Q := by rw [← e]; exact h

set_option maxHeartbeats 1000000 in
set_option maxRecDepth 1000000 in
theorem blockOf (base n : Nat) (tv : Value) (ts : List Tk) (r : Option Nat) (w : World) (h : TRow base w tv ts r) (hn : n ≤ 4096) (hts : ts.length ≤ 4096) (hfit : ∀ t ∈ ts, t.fits) :
    Calls Try.prog 41 #[.int .i64 n, tv] w fun e w' => ∃ v' r', e = .returned v' ∧ Own w' v' (blk n ts) r' ∧ Below w.heap.size w w' ∧ (∀ g, r' = some g → w.heap.size ≤ g) := by
  have HT : Hid (TRow base w tv ts r) := h
  obtain ⟨a, cap, rfl, hcm, hlc⟩ := h.own.shape
  unfold maxLen at hcm
  have HF : Hid (∀ t ∈ ts, t.fits) := hfit
  clear h hfit
  go_enter Try.func41, Try.ntmps41
  go_wp2_with fail
  refine (newWriter w).mono ?_
  rintro e w0 ⟨rfl, hw0, hb0, hs0⟩
  have HW0 : Hid (WAt w0 w.heap.size [] none) := hw0
  have HB0 : Hid (Below w.heap.size w w0) := hb0
  clear hw0 hb0
  go_wp2_with fail
  refine (wUvarint w.heap.size [] none n w0 HW0.out (by omega) (by simp)).mono ?_
  rintro e w1 ⟨rfl, r1, hw1, hk1, hr1⟩
  have HI1 : Hid (WAt w1 w.heap.size (uv n) r1 ∧ Below w.heap.size w w1 ∧ ∀ g, r1 = some g → w.heap.size ≤ g) := by
    refine ⟨by simpa using hw1, HB0.out.trans (hk1.below HB0.out.size (Nat.le_refl _) (by simp)), fun g e => ?_⟩
    rcases hr1 with rfl | ⟨g', rfl, hg'⟩
    · simp at e
    · simp at e; omega
  clear hw1 hk1 hr1 HB0 HW0
  go_wp2
  go_loopg [15] ts.length (fun gk s15 wx => ∃ k : Nat, ∃ rx, k + gk = ts.length ∧ s15 = .int .i64 k ∧ Hid (WAt wx w.heap.size (uv n ++ (ts.take k).flatMap Tk.enc) rx ∧ Below w.heap.size w wx ∧ ∀ g, rx = some g → w.heap.size ≤ g))
  case atStart => exact ⟨0, r1, by omega, rfl, by unfold Hid; simpa using HI1.out⟩
  case round =>
    obtain ⟨k, rx, hkg, rfl, HI⟩ := hrel
    clear HI1
    cases gk with
    | zero =>
      obtain rfl : k = ts.length := by omega
      have HL : Hid ((uv n ++ (ts.take ts.length).flatMap Tk.enc).length ≤ 140737488355328) := by
        have h1 := uv_len10 (v := n) (by omega)
        have h2 := encs_len (ts.take ts.length) (fun t ht => HF.out t (List.mem_of_mem_take ht))
        rw [List.length_take] at h2
        unfold Hid
        rw [List.length_append]; omega
      go_wp2_with fail
      refine (wBytes w.heap.size _ rx wr HI.out.1 HL.out).mono ?_
      rintro e w2 ⟨v', r', rfl, ho', hb', hr'⟩
      have HE : Hid (Own w2 v' (blk n ts) r' ∧ Below w.heap.size w w2 ∧ ∀ g, r' = some g → w.heap.size ≤ g) := by
        rw [List.take_length] at ho'
        exact ⟨ho', HI.out.2.1.trans (hb'.mono HI.out.2.1.size), fun g e => Nat.le_trans HI.out.2.1.size (hr' g e)⟩
      clear ho' hb' hr'
      go_wp2
      go_ret
      exact ⟨v', r', rfl, HE.out⟩
    | succ gk1 =>
      have hk : k < ts.length := by omega
      have HN : Hid (uv n ++ (ts.take (k + 1)).flatMap Tk.enc = (uv n ++ (ts.take k).flatMap Tk.enc) ++ ts[k].enc) := by
        unfold Hid; rw [List.take_succ_eq_append_getElem hk, List.flatMap_append]; simp
      have HDL : Hid ((uv n ++ (ts.take k).flatMap Tk.enc).length + 5000 ≤ 140737488355328) := by
        have h1 := uv_len10 (v := n) (by omega)
        have h2 := encs_len (ts.take k) (fun t ht => HF.out t (List.mem_of_mem_take ht))
        rw [List.length_take] at h2
        unfold Hid
        rw [List.length_append]; omega
      obtain ⟨D, hD⟩ : ∃ D, uv n ++ (ts.take k).flatMap Tk.enc = D := ⟨_, rfl⟩
      rw [hD] at HN HDL HI
      clear hD
      have hfk : ts[k].fits := HF.out _ (List.getElem_mem hk)
      obtain ⟨gT, rfl, hgT, HCT⟩ : ∃ gT, a = some ⟨gT, 0, none⟩ ∧ gT < w.heap.size ∧ ∀ j, j < 3 * ts.length → w.cell? ⟨gT, j, none⟩ = (tcells ts)[j]? := by
        rcases HT.out.own with ⟨e, h0, _⟩ | ⟨gT, cap', _, e, hg, _, _, _, _, hc⟩
        · rw [h0] at hk; simp at hk
        · simp only [Value.slice.injEq] at e
          exact ⟨gT, e.1, hg, hc⟩
      have HcT : Hid (∀ j, j < 3 * ts.length → wr.cell? ⟨gT, j, none⟩ = (tcells ts)[j]?) := fun j hj => by
        rw [HI.out.2.1.cell (p := ⟨gT, j, none⟩) hgT]; exact HCT j hj
      clear HCT
      have hbig : w.heap.size < wr.heap.size := HI.out.1.lt
      cases het : ts[k] using Tk.elim with
      | lit gl bs =>
        have hc0 : wr.cell? ⟨gT, k * 3, none⟩ = some (.slice (some ⟨gl, 0, none⟩) bs.length bs.length) := by
          rw [HcT.out _ (by omega), show k * 3 = 3 * k + 0 by omega, tcells_get ts k hk 0 (by omega), het]; rfl
        have hc1 : wr.cell? ⟨gT, k * 3 + 1, none⟩ = some (.int .i64 0) := by
          rw [HcT.out _ (by omega), show k * 3 = 3 * k by omega, tcells_get ts k hk 1 (by omega), het]; rfl
        have hc2 : wr.cell? ⟨gT, k * 3 + 2, none⟩ = some (.int .i64 0) := by
          rw [HcT.out _ (by omega), show k * 3 = 3 * k by omega, tcells_get ts k hk 2 (by omega), het]; rfl
        rw [het] at hfk HN
        have hbs2 : bs.length ≤ 4096 := hfk
        have hmem : Tk.lit gl bs ∈ ts := by rw [← het]; exact List.getElem_mem hk
        have hbs1 : 0 < bs.length := List.length_pos_iff.mpr (HT.out.lits gl bs hmem).1
        have HBs : Hid (BytesAt w (.slice (some ⟨gl, 0, none⟩) bs.length bs.length) bs) := (HT.out.lits gl bs hmem).2.2.2.bytes
        clear het hmem hfk
        go_wp2_with fail
        clear hc0 hc1 hc2
        have HK0 : Hid (Below wr.heap.size wr (wr.alloc (.cells #[.slice (some ⟨gl, 0, none⟩) bs.length bs.length, .int .i64 0, .int .i64 0] 28))) := (Below.refl _ _).alloc (Nat.le_refl _) _
        have HS0 : Hid ((wr.alloc (.cells #[.slice (some ⟨gl, 0, none⟩) bs.length bs.length, .int .i64 0, .int .i64 0] 28)).heap.size = wr.heap.size + 1) := by unfold Hid; simp
        have HC0 : Hid ((wr.alloc (.cells #[.slice (some ⟨gl, 0, none⟩) bs.length bs.length, .int .i64 0, .int .i64 0] 28)).cell? ⟨wr.heap.size, 0, none⟩ = some (.slice (some ⟨gl, 0, none⟩) bs.length bs.length)) := by
          unfold Hid; rw [World.cell?_alloc_at _ _ _ _ rfl]; rfl
        obtain ⟨W, hW⟩ : ∃ W, wr.alloc (.cells #[.slice (some ⟨gl, 0, none⟩) bs.length bs.length, .int .i64 0, .int .i64 0] 28) = W := ⟨_, rfl⟩
        rw [hW] at HK0 HS0 HC0 ⊢
        clear hW
        have HWA : Hid (WAt W w.heap.size D rx) := HI.out.1.later HK0.out
        have hrx : ∀ g, rx = some g → g < wr.heap.size := HI.out.1.rlt
        refine (calls_cast (by simp) (wUvarint w.heap.size D rx (2 * bs.length) W HWA.out (by omega) (by have := HDL.out; omega))).mono ?_
        rintro e w2 ⟨rfl, hp2⟩
        obtain ⟨r2, hwa2, hb2, hr2, hs2, hbl2⟩ := hp2.step (B := w.heap.size) (w0 := w) (HI.out.2.1.trans (HK0.out.mono HI.out.2.1.size)) (Nat.le_refl _) HWA.out.lt HI.out.2.2
        have hcell2 : w2.cell? ⟨wr.heap.size, 0, none⟩ = some (.slice (some ⟨gl, 0, none⟩) bs.length bs.length) := by
          rw [World.cell?_of_block (w := W) (a := ⟨wr.heap.size, 0, none⟩) (hbl2 wr.heap.size (by rw [HS0.out]; omega) (by omega) (fun e => by have := hrx _ e.symm; omega))]
          exact HC0.out
        have HI2 : Hid (WAt w2 w.heap.size (D ++ uv (2 * bs.length)) r2 ∧ Below w.heap.size w w2 ∧ ∀ g, r2 = some g → w.heap.size ≤ g) := ⟨hwa2, hb2, hr2⟩
        clear hp2 hwa2 hb2 hr2 hs2 hbl2
        go_wp2_with fail
        refine (wRaw w.heap.size (D ++ uv (2 * bs.length)) r2 _ bs w2 HI2.out.1 (HBs.out.later HI2.out.2.1) (by
          have := HDL.out
          have h1 := uv_len10 (v := 2 * bs.length) (by omega)
          rw [List.length_append]; omega)).mono ?_
        rintro e w3 ⟨rfl, hp3⟩
        obtain ⟨r3, hwa3, hb3, hr3, hs3, hbl3⟩ := hp3.step (B := w.heap.size) (w0 := w) HI2.out.2.1 (Nat.le_refl _) HI2.out.1.lt HI2.out.2.2
        have HI3 : Hid (WAt w3 w.heap.size (uv n ++ (ts.take (k + 1)).flatMap Tk.enc) r3 ∧ Below w.heap.size w w3 ∧ ∀ g, r3 = some g → w.heap.size ≤ g) := by
          refine ⟨?_, hb3, hr3⟩
          rw [HN.out, show (Tk.lit gl bs).enc = uv (2 * bs.length) ++ bs from rfl, ← List.append_assoc]
          exact hwa3
        clear hp3 hwa3 hb3 hr3 hs3 hbl3
        go_wp2
        go_roundg gk1
        case measure => omega
        case rel => exact ⟨k + 1, r3, by omega, by go_num, HI3.out⟩
      | mat d m =>
        have hc0 : wr.cell? ⟨gT, k * 3, none⟩ = some (.slice none 0 0) := by
          rw [HcT.out _ (by omega), show k * 3 = 3 * k + 0 by omega, tcells_get ts k hk 0 (by omega), het]; rfl
        have hc1 : wr.cell? ⟨gT, k * 3 + 1, none⟩ = some (.int .i64 d) := by
          rw [HcT.out _ (by omega), show k * 3 = 3 * k by omega, tcells_get ts k hk 1 (by omega), het]; rfl
        have hc2 : wr.cell? ⟨gT, k * 3 + 2, none⟩ = some (.int .i64 m) := by
          rw [HcT.out _ (by omega), show k * 3 = 3 * k by omega, tcells_get ts k hk 2 (by omega), het]; rfl
        rw [het] at hfk HN
        have hdm : d ≤ 4096 ∧ m ≤ 4096 := hfk
        obtain ⟨hd2, hm2⟩ := hdm
        clear het hfk
        go_wp2_with fail
        clear hc0 hc1 hc2
        have HK0 : Hid (Below wr.heap.size wr (wr.alloc (.cells #[.slice none 0 0, .int .i64 d, .int .i64 m] 28))) := (Below.refl _ _).alloc (Nat.le_refl _) _
        have HS0 : Hid ((wr.alloc (.cells #[.slice none 0 0, .int .i64 d, .int .i64 m] 28)).heap.size = wr.heap.size + 1) := by unfold Hid; simp
        have HC0 : Hid ((wr.alloc (.cells #[.slice none 0 0, .int .i64 d, .int .i64 m] 28)).cell? ⟨wr.heap.size, 1, none⟩ = some (.int .i64 d)) := by
          unfold Hid; rw [World.cell?_alloc_at _ _ _ _ rfl]; rfl
        obtain ⟨W, hW⟩ : ∃ W, wr.alloc (.cells #[.slice none 0 0, .int .i64 d, .int .i64 m] 28) = W := ⟨_, rfl⟩
        rw [hW] at HK0 HS0 HC0 ⊢
        clear hW
        have HWA : Hid (WAt W w.heap.size D rx) := HI.out.1.later HK0.out
        have hrx : ∀ g, rx = some g → g < wr.heap.size := HI.out.1.rlt
        refine (calls_cast (by simp) (wUvarint w.heap.size D rx (2 * m + 1) W HWA.out (by omega) (by have := HDL.out; omega))).mono ?_
        rintro e w2 ⟨rfl, hp2⟩
        obtain ⟨r2, hwa2, hb2, hr2, hs2, hbl2⟩ := hp2.step (B := w.heap.size) (w0 := w) (HI.out.2.1.trans (HK0.out.mono HI.out.2.1.size)) (Nat.le_refl _) HWA.out.lt HI.out.2.2
        have hcell2 : w2.cell? ⟨wr.heap.size, 1, none⟩ = some (.int .i64 d) := by
          rw [World.cell?_of_block (w := W) (a := ⟨wr.heap.size, 1, none⟩) (hbl2 wr.heap.size (by rw [HS0.out]; omega) (by omega) (fun e => by have := hrx _ e.symm; omega))]
          exact HC0.out
        have HI2 : Hid (WAt w2 w.heap.size (D ++ uv (2 * m + 1)) r2 ∧ Below w.heap.size w w2 ∧ ∀ g, r2 = some g → w.heap.size ≤ g) := ⟨hwa2, hb2, hr2⟩
        clear hp2 hwa2 hb2 hr2 hs2 hbl2
        go_wp2_with fail
        refine (wUvarint w.heap.size (D ++ uv (2 * m + 1)) r2 d w2 HI2.out.1 (by omega) (by
          have := HDL.out
          have h1 := uv_len10 (v := 2 * m + 1) (by omega)
          rw [List.length_append]; omega)).mono ?_
        rintro e w3 ⟨rfl, hp3⟩
        obtain ⟨r3, hwa3, hb3, hr3, hs3, hbl3⟩ := hp3.step (B := w.heap.size) (w0 := w) HI2.out.2.1 (Nat.le_refl _) HI2.out.1.lt HI2.out.2.2
        have HI3 : Hid (WAt w3 w.heap.size (uv n ++ (ts.take (k + 1)).flatMap Tk.enc) r3 ∧ Below w.heap.size w w3 ∧ ∀ g, r3 = some g → w.heap.size ≤ g) := by
          refine ⟨?_, hb3, hr3⟩
          rw [HN.out, show (Tk.mat d m).enc = uv (2 * m + 1) ++ uv d from rfl, ← List.append_assoc]
          exact hwa3
        clear hp3 hwa3 hb3 hr3 hs3 hbl3
        go_wp2
        go_roundg gk1
        case measure => omega
        case rel => exact ⟨k + 1, r3, by omega, by go_num, HI3.out⟩
theorem PreP.fits {l : List Nat} {ts : List Tk} {i : Nat} (h : PreP l ts i) (hl : l.length ≤ 4096) : ∀ t ∈ ts, t.fits := by
  induction h using PreP.ind with
  | nil => simp
  | lit h hlast hb hi he hn ih =>
    intro t ht
    rcases List.mem_append.mp ht with ht | ht
    · exact ih t ht
    · simp at ht; subst ht; simp only [Tk.fits_lit, Tk.fits_mat]; omega
  | mat h hn hb ih =>
    intro t ht
    rcases List.mem_append.mp ht with ht | ht
    · exact ih t ht
    · simp at ht; subst ht
      simp only [Tk.fits_lit, Tk.fits_mat]
      rcases hb with ⟨_, _, _⟩ | ⟨_, h1, _, _, _, h2, _⟩ <;> omega

set_option maxHeartbeats 400000 in
set_option maxRecDepth 1000000 in
/-- The block of a text. -/
theorem encodeOf (v : Value) (l : List Nat) (w : World) (h : BytesAt w v l) (hl : l.length ≤ 4096) :
    Calls Try.prog 19 #[v] w fun e w' => ∃ v' r' ts, e = .returned (.tuple #[v', .int .i64 0]) ∧ PreP l ts l.length ∧ Own w' v' (blk l.length ts) r' ∧ Below w.heap.size w w' ∧ (∀ g, r' = some g → w.heap.size ≤ g) := by
  have HT := tokensAny v l w h hl
  obtain ⟨a, cap, rfl, hlc, hcm, hby, hcells⟩ := h
  unfold maxLen at hcm
  clear hcells hby
  have HC : Hid (Calls Try.prog 9 #[.slice a l.length cap] w fun e w' => ∃ tv ts r, e = .returned (.tuple #[tv, .int .i64 0]) ∧ PreP l ts l.length ∧ TRow (w.heap.size + 1) w' tv ts r ∧ Below w.heap.size w w') := HT
  clear HT
  go_enter Try.func19, Try.ntmps19
  go_wp2_with fail
  refine HC.out.mono ?_
  rintro e w1 ⟨tv, ts, r, rfl, hp, ht, hb⟩
  have HP : Hid (PreP l ts l.length) := hp
  have HTR : Hid (TRow (w.heap.size + 1) w1 tv ts r) := ht
  have HB : Hid (Below w.heap.size w w1) := hb
  clear hp ht hb
  go_wp2_with fail
  refine (blockOf _ l.length tv ts r w1 HTR.out hl (by have := HP.out.count; omega) (HP.out.fits hl)).mono ?_
  rintro e w2 ⟨v', r', rfl, ho, hb2, hr⟩
  have HE : Hid (Own w2 v' (blk l.length ts) r' ∧ Below w.heap.size w w2 ∧ ∀ g, r' = some g → w.heap.size ≤ g) := ⟨ho, HB.out.trans (hb2.mono HB.out.size), fun g e => Nat.le_trans HB.out.size (hr g e)⟩
  clear ho hb2 hr
  go_wp2
  go_ret2
  exact ⟨v', r', ts, rfl, HP.out, HE.out⟩
end Go.Proofs.Ytklfmgkfcacfkaa
