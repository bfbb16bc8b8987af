import Derived.Test.YtgpmhflndcppeaaQp11
import Derived.Test.YtgpmhflndcppeaaRows
import Derived.ProofKit
import Derived.OpenShut
import Derived.SizedLaws
import Derived.Deep.Slices
/-! A disk that has begun. -/
namespace Go.Proofs.Ytgpmhflndcppeaa
open Go.RowKit Go.Maps Plain
set_option linter.unusedVariables false
set_option linter.unusedSimpArgs false

def nmF : ByteArray := ⟨#[102, 105, 114, 115, 116]⟩
def kF : Nm := [102, 105, 114, 115, 116]
theorem szF : nmF.size ≤ maxLen := by unfold maxLen; decide
def e1 (q : Int) (G : Nat) : Dk := ⟨[(kF, G)], [], [DC.mk kF G], 0, q, 1, false, 0, false, upd F0 G ⟨[], [], []⟩, lv1 G⟩
def e2 (q : Int) (G : Nat) : Dk := ⟨[(kF, G)], [], [DC.mk kF G], 1, q, 2, false, 0, false, upd (upd F0 G ⟨[], [], []⟩) G ⟨[7], [], [FC.add [7]]⟩, lv1 G⟩
theorem x1 (q : Int) (G : Nat) : createK (Dk.fresh q) nmF G = (0, e1 q G) := by rfl
theorem x2 (q : Int) (G : Nat) (h : 1 ≤ q) : appendK (e1 q G) nmF [7] = (0, e2 q G) := by
  have a1 : (fnd (e1 q G).dead (e1 q G).L nmF).2 = 0 := by rfl
  have a2 : look (e1 q G).L nmF.data.toList = some G := by rfl
  have a3 : (e1 q G).file G = ⟨[], [], []⟩ := upd_same _ _ _
  have a4 : (e1 q G).can = true := by rfl
  unfold appendK
  rw [if_pos a1, if_neg (by show ¬ (0 < 1 ∧ q - 0 < ((1 : Nat) : Int)); omega), a2]
  simp only [a3, a4, if_true, Fl.add]
  rfl
theorem x3 (G : Nat) : appendK (e1 0 G) nmF [7] = (33, e1 0 G) := by
  have a1 : (fnd (e1 0 G).dead (e1 0 G).L nmF).2 = 0 := by rfl
  unfold appendK
  rw [if_pos a1, if_pos (by show (0 < 1 ∧ (0 : Int) - 0 < ((1 : Nat) : Int)); omega)]
/-- The disk that has begun. -/
def bg (q : Int) (G : Nat) : Dk := if q = 0 then e1 0 G else e2 q G
theorem e1_dok (q : Int) (G : Nat) : (e1 q G).Dok 1 := by have := create_dok (G := G) (fresh_dok q) szF (by omega); rwa [x1] at this
theorem e1_sum (q : Int) (G : Nat) (h0 : 0 ≤ q) (h1 : q ≤ 1073741824) : (e1 q G).Sum := ⟨by simp [e1], by simp [e1], by
  show (0 : Int) = ((((upd F0 G ⟨[], [], []⟩ G).seen.length + 0 : Nat)) : Int)
  rw [upd_same]; rfl, ⟨h0, h1⟩, by show (0 : Int) ≤ 1073741824; omega⟩
theorem e2_sum (q : Int) (G : Nat) (h0 : 0 ≤ q) (h1 : q ≤ 1073741824) : (e2 q G).Sum := ⟨by simp [e2], by simp [e2], by
  show (1 : Int) = ((((upd (upd F0 G ⟨[], [], []⟩) G ⟨[7], [], [FC.add [7]]⟩ G).seen.length + 0 : Nat)) : Int)
  rw [upd_same]; rfl, ⟨h0, h1⟩, by show (1 : Int) ≤ 1073741824; omega⟩
theorem e2_dok (q : Int) (G : Nat) (h0 : 1 ≤ q) (h1 : q ≤ 1073741824) : (e2 q G).Dok 2 := by have := append_dok (s := nmF) (b := [7]) (e1_dok q G) (e1_sum q G (by omega) h1).uok (by omega); rwa [x2 q G h0] at this
theorem Dk.Ok.mono {k : Dk} {n m : Nat} (h : k.Ok n) (hm : n ≤ m) : k.Ok m := ⟨h.refs, fun G hG => ⟨(h.fok G hG).1, Nat.le_trans (h.fok G hG).2 hm⟩, ⟨h.ops.1, by have := h.ops.2; omega⟩, h.fuse⟩
theorem Dk.Dok.mono {k : Dk} {n m : Nat} (h : k.Dok n) (hm : n ≤ m) : k.Dok m := ⟨h.ok.mono hm, h.dir, h.eq, Nat.le_trans h.cnt hm, h.few⟩
theorem bg_dok (q : Int) (G : Nat) (h0 : 0 ≤ q) (h1 : q ≤ 1073741824) : (bg q G).Dok 2 := by
  unfold bg
  split
  · exact (e1_dok 0 G).mono (by omega)
  · exact e2_dok q G (by omega) h1
theorem bg_sum (q : Int) (G : Nat) (h0 : 0 ≤ q) (h1 : q ≤ 1073741824) : (bg q G).Sum := by
  unfold bg
  split
  · exact e1_sum 0 G (by omega) (by omega)
  · exact e2_sum q G h0 h1
theorem bg_on (q : Int) (G : Nat) : (bg q G).On := by
  unfold bg
  split <;> exact ⟨rfl, rfl⟩

theorem one7 (w : World) : BytesAt (w.alloc (.cells #[.int .u8 7] 5)) (.slice (some ⟨w.heap.size, 0, none⟩) 1 1) [7] := by
  refine ⟨_, 1, rfl, by simp, by unfold maxLen; omega, by simp, fun _ => ⟨w.heap.size, 0, rfl, fun j hj => ?_⟩⟩
  have : j = 0 := by simp at hj; omega
  subst this
  rw [World.cell?_alloc_at _ _ _ _ rfl]
  rfl
theorem append7 {W w1 : World} {d n : Nat} {k : Dk} (h : Dsk W d k w1) (hk : k.Dok n) (hu : k.Uok) (hn : n ≤ 4398046511103) : Calls Try.prog 13 #[.pointer (some ⟨d, 0, none⟩), .string ⟨#[102, 105, 114, 115, 116]⟩, .slice (some ⟨w1.heap.size, 0, none⟩) 1 1] (w1.alloc (.cells #[.int .u8 7] 5)) (DPost W d (appendK k nmF [7])) := by
  obtain ⟨h1, S, h2, h3⟩ := h
  have hb : Below w1.heap.size w1 (w1.alloc (.cells #[.int .u8 7] 5)) := (Below.refl _ _).alloc (Nat.le_refl _) _
  have hS := h2.rng
  refine (appendOf d k n S nmF szF _ [7] _ (h2.later hb) hk.ok hu hn (fun w' hc => ?_)).mono ?_
  · obtain ⟨a, cap, e, b1, b2, b3, b4⟩ := one7 w1
    refine ⟨a, cap, e, b1, b2, b3, fun hne => ?_⟩
    obtain ⟨b, off, e2, b5⟩ := b4 hne
    refine ⟨b, off, e2, fun j hj => ?_⟩
    have hb' : b = w1.heap.size := by
      rw [e2] at e
      simp only [Value.slice.injEq, Option.some.injEq, Addr.mk.injEq] at e
      exact e.1.1.symm
    rw [World.cell?_of_block (w := w1.alloc (.cells #[.int .u8 7] 5)) (a := ⟨b, off + j, none⟩) (hc.block b (by rw [hb']; simp) (fun hs => by have := hS b hs; omega))]
    exact b5 j hj
  · rintro e w2 hp
    exact Dsk.op (h1.trans (hb.mono h1.size)) h3 hp
theorem newBad (q : Int) (hq1 : I64 q) (hq : qB q = false) (w : World) : Calls Try.prog 11 #[.int .i64 q] w fun e w' => e = .returned (.tuple #[.pointer none, .int .i64 3]) ∧ w' = w := by
  have HL : Hid (Calls Try.prog 34 #[.slice none 0 0, .int .i64 q] w fun e w' => e = .returned (.tuple #[.pointer none, .int .i64 3]) ∧ w' = w) := by
    refine (loadNil q hq1.1 hq1.2 w).mono ?_
    rintro e w' (⟨_, rfl, rfl⟩ | ⟨h, _⟩)
    · exact ⟨rfl, rfl⟩
    · rw [hq] at h; simp at h
  go_enter Try.func11, Try.ntmps11
  go_wp2_with fail
  refine HL.out.mono ?_
  rintro e w1 ⟨rfl, rfl⟩
  go_wp2
  go_ret2
  exact ⟨rfl, rfl⟩

def BgPost (q : Int) (w : World) (e : Ending) (w' : World) : Prop := (qB q = false ∧ e = .returned (.tuple #[.pointer none, .bool true]) ∧ Below w.heap.size w w') ∨
  (∃ d G, e = .returned (.tuple #[.pointer (some ⟨d, 0, none⟩), .bool true]) ∧ Dsk w d (bg q G) w' ∧ 0 ≤ q ∧ q ≤ 1073741824)

theorem rd1 {W w1 : World} {d n G : Nat} {q : Int} (h : Dsk W d (e1 q G) w1) : Calls Try.prog 14 #[.pointer (some ⟨d, 0, none⟩), .string ⟨#[102, 105, 114, 115, 116]⟩, .int .i64 0, .int .i64 9] w1 fun e w2 => ∃ a c, e = .returned (.tuple #[.slice a 0 c, .int .i64 0]) ∧ c ≤ 2 ^ 63 - 1 ∧ Dsk W d (e1 q G) w2 := by
  refine (readD (s := nmF) h szF (e1_dok q G) 0 9 (by omega) rfl (Nat.zero_le _)).mono ?_
  rintro e w2 ⟨a, l, c, r, rfl, hw, hb⟩
  have a1 : rdB (e1 q G) nmF 0 9 = [] := by
    show ((upd F0 G ⟨[], [], []⟩ G).seen.drop 0).take 9 = []
    rw [upd_same]; rfl
  rw [a1] at hw
  have hl := own_len hw
  obtain ⟨q1, q2⟩ := own_cap hw
  simp at hl
  subst hl
  exact ⟨a, c, rfl, q2, h.later hb⟩
theorem rd2 {W w1 : World} {d n G : Nat} {q : Int} (h0 : 1 ≤ q) (h1 : q ≤ 1073741824) (h : Dsk W d (e2 q G) w1) : Calls Try.prog 14 #[.pointer (some ⟨d, 0, none⟩), .string ⟨#[102, 105, 114, 115, 116]⟩, .int .i64 0, .int .i64 9] w1 fun e w2 => ∃ b off c, e = .returned (.tuple #[.slice (some ⟨b, off, none⟩) 1 c, .int .i64 0]) ∧ w2.cell? ⟨b, off, none⟩ = some (.int .u8 7) ∧ 1 ≤ c ∧ c ≤ 2 ^ 63 - 1 ∧ Dsk W d (e2 q G) w2 := by
  have hsz : sizeK (e2 q G) nmF = 1 := by
    show (upd (upd F0 G ⟨[], [], []⟩) G ⟨[7], [], [FC.add [7]]⟩ G).seen.length = 1
    rw [upd_same]; rfl
  refine (readD (s := nmF) h szF (e2_dok q G h0 h1) 0 9 (by omega) rfl (Nat.zero_le _)).mono ?_
  rintro e w2 ⟨a, l, c, r, rfl, hw, hb⟩
  have a1 : rdB (e2 q G) nmF 0 9 = [7] := by
    show ((upd (upd F0 G ⟨[], [], []⟩) G ⟨[7], [], [FC.add [7]]⟩ G).seen.drop 0).take 9 = [7]
    rw [upd_same]; rfl
  rw [a1] at hw
  have hl := own_len hw
  obtain ⟨q1, q2⟩ := own_cap hw
  have hl' : l = 1 := by simpa using hl.symm
  subst hl'
  obtain ⟨a', cap, e, _, _, _, hc⟩ := hw.bytes
  simp only [Value.slice.injEq] at e
  obtain ⟨rfl, _, rfl⟩ := e
  obtain ⟨b, off, rfl, hc2⟩ := hc (by simp)
  have h7 := hc2 0 (by simp)
  exact ⟨b, off, c, rfl, h7, q1, q2, h.later hb⟩

set_option maxHeartbeats 4000000 in
set_option maxRecDepth 1000000 in
theorem begunOf (q : Int) (hq : I64 q) (w : World) : Calls Try.prog 4 #[.int .i64 q] w (BgPost q w) := by
  obtain ⟨hq1, hq2⟩ := hq
  by_cases h0 : q < 0
  · have HN : Hid (Calls Try.prog 11 #[.int .i64 q] w fun e w' => e = .returned (.tuple #[.pointer none, .int .i64 3]) ∧ w' = w) := newBad q ⟨hq1, hq2⟩ (by simp [qB]; omega) w
    have HP : Hid (BgPost q w (.returned (.tuple #[.pointer none, .bool true])) w) := .inl ⟨by simp [qB]; omega, rfl, Below.refl _ _⟩
    go_enter Try.func4, Try.ntmps4
    go_wp2_with fail
    refine HN.out.mono ?_
    rintro e w1 ⟨rfl, rfl⟩
    go_wp2
    go_ret2
    exact HP.out
  · by_cases h1 : 1073741824 < q
    · have HN : Hid (Calls Try.prog 11 #[.int .i64 q] w fun e w' => e = .returned (.tuple #[.pointer none, .int .i64 3]) ∧ w' = w) := newBad q ⟨hq1, hq2⟩ (by simp [qB]; omega) w
      have HP : Hid (BgPost q w (.returned (.tuple #[.pointer none, .bool true])) w) := .inl ⟨by simp [qB]; omega, rfl, Below.refl _ _⟩
      go_enter Try.func4, Try.ntmps4
      go_wp2_with fail
      refine HN.out.mono ?_
      rintro e w1 ⟨rfl, rfl⟩
      go_wp2
      go_ret2
      exact HP.out
    · have hq0 : 0 ≤ q := by omega
      have hqm : q ≤ 1073741824 := by omega
      have HN : Hid (Calls Try.prog 11 #[.int .i64 q] w fun e w' => e = .returned (.tuple #[.pointer (some ⟨w.heap.size, 0, none⟩), .int .i64 0]) ∧ Dsk w w.heap.size (Dk.fresh q) w') := newOf q hq0 hqm w
      go_enter Try.func4, Try.ntmps4
      go_wp2_with fail
      refine HN.out.mono ?_
      rintro e w1 ⟨rfl, hd⟩
      have HC : Hid (Calls Try.prog 12 #[.pointer (some ⟨w.heap.size, 0, none⟩), .string ⟨#[102, 105, 114, 115, 116]⟩] w1 fun e w2 => ∃ G, e = .returned (.int .i64 0) ∧ Dsk w w.heap.size (e1 q G) w2) := by
        refine (createD (s := nmF) hd szF (fresh_dok q) (by omega)).mono ?_
        rintro e w2 ⟨G, _, rfl, h2⟩
        rw [x1] at h2 ⊢
        exact ⟨G, rfl, h2⟩
      clear hd
      go_wp2_with fail
      refine HC.out.mono ?_
      rintro e w2 ⟨G, rfl, hd⟩
      have HA : Hid (Calls Try.prog 13 #[.pointer (some ⟨w.heap.size, 0, none⟩), .string ⟨#[102, 105, 114, 115, 116]⟩, .slice (some ⟨w2.heap.size, 0, none⟩) 1 1] (w2.alloc (.cells #[.int .u8 7] 5)) (DPost w w.heap.size (appendK (e1 q G) nmF [7]))) := append7 hd (e1_dok q G) (e1_sum q G hq0 hqm).uok (by omega)
      clear hd HC HN
      by_cases hz : q = 0
      · subst hz
        rw [x3] at HA
        go_wp2_with fail
        refine HA.out.mono ?_
        rintro e w3 ⟨rfl, hd⟩
        have HR : Hid (Calls Try.prog 14 #[.pointer (some ⟨w.heap.size, 0, none⟩), .string ⟨#[102, 105, 114, 115, 116]⟩, .int .i64 0, .int .i64 9] w3 fun e w2 => ∃ a c, e = .returned (.tuple #[.slice a 0 c, .int .i64 0]) ∧ c ≤ 2 ^ 63 - 1 ∧ Dsk w w.heap.size (e1 0 G) w2) := rd1 (n := 0) hd
        clear hd HA
        go_wp2_with fail
        refine HR.out.mono ?_
        rintro e w4 ⟨a, c, rfl, hc, hd⟩
        have HP : Hid (BgPost 0 w (.returned (.tuple #[.pointer (some ⟨w.heap.size, 0, none⟩), .bool true])) w4) := .inr ⟨_, G, rfl, by rw [show bg 0 G = e1 0 G from rfl]; exact hd, by omega, by omega⟩
        clear hd HR
        go_wp2
        go_ret2
        exact HP.out
      · have hq1' : 1 ≤ q := by omega
        rw [x2 q G hq1'] at HA
        go_wp2_with fail
        refine HA.out.mono ?_
        rintro e w3 ⟨rfl, hd⟩
        have HR : Hid (Calls Try.prog 14 #[.pointer (some ⟨w.heap.size, 0, none⟩), .string ⟨#[102, 105, 114, 115, 116]⟩, .int .i64 0, .int .i64 9] w3 fun e w2 => ∃ b off c, e = .returned (.tuple #[.slice (some ⟨b, off, none⟩) 1 c, .int .i64 0]) ∧ w2.cell? ⟨b, off, none⟩ = some (.int .u8 7) ∧ 1 ≤ c ∧ c ≤ 2 ^ 63 - 1 ∧ Dsk w w.heap.size (e2 q G) w2) := rd2 (n := 0) hq1' hqm hd
        clear hd HA
        go_wp2_with fail
        refine HR.out.mono ?_
        rintro e w4 ⟨b, off, c, rfl, hcell, hc1, hc, hd⟩
        have HP : Hid (∀ w5, Below w4.heap.size w4 w5 → BgPost q w (.returned (.tuple #[.pointer (some ⟨w.heap.size, 0, none⟩), .bool true])) w5) := fun w5 hb => .inr ⟨_, G, rfl, by rw [show bg q G = e2 q G by unfold bg; rw [if_neg hz]]; exact hd.later hb, by omega, by omega⟩
        clear hd HR
        go_wp2
        go_quiet (fail)
        go_wp2
        go_ret2
        exact HP.out _ (below_drewN' _ _)
end Go.Proofs.Ytgpmhflndcppeaa

/-! A script that came in; more operations on a disk in new memory. -/
namespace Go.Proofs.Ytgpmhflndcppeaa
open Go.RowKit Go.Deep Go.ChangeShapes Go.WideShapes Go.ChangeAt Go.Maps Plain
set_option linter.unusedVariables false
set_option linter.unusedSimpArgs false
set_option linter.constructorNameAsVariable false

structure Sp where
  kd : Int
  nm : ByteArray
  to : ByteArray
  at' : Int
  n : Int
  vb : Value
  vp : Value
  data : List Nat
def Sp.none : Sp := ⟨0, ByteArray.empty, ByteArray.empty, 0, 0, .slice Option.none 0 0, .slice Option.none 0 0, []⟩
structure Sp.Ok (s : Sp) : Prop where
  kd : I64 s.kd
  n : I64 s.n
  nm : s.nm.size ≤ maxLen
  to : s.to.size ≤ maxLen
  data : s.data.length ≤ 140737488351232
  vp : ∃ a m c, s.vp = .slice a m c
structure SpAt (w : World) (b o : Nat) (s : Sp) : Prop where
  c0 : w.cell? ⟨b, o, none⟩ = some (.int .i64 s.kd)
  c1 : w.cell? ⟨b, o + 1, none⟩ = some (.string s.nm)
  c2 : w.cell? ⟨b, o + 2, none⟩ = some (.string s.to)
  c3 : w.cell? ⟨b, o + 3, none⟩ = some (.int .i64 s.at')
  c4 : w.cell? ⟨b, o + 4, none⟩ = some (.int .i64 s.n)
  c5 : w.cell? ⟨b, o + 5, none⟩ = some s.vb
  c6 : w.cell? ⟨b, o + 6, none⟩ = some s.vp
  row : BytesAt w s.vb s.data
theorem SpAt.later {w w' : World} {b o : Nat} {s : Sp} (h : SpAt w b o s) (hb : Below w.heap.size w w') : SpAt w' b o s :=
  ⟨by rw [hb.cell (cell_lt h.c0)]; exact h.c0, by rw [hb.cell (cell_lt h.c1)]; exact h.c1, by rw [hb.cell (cell_lt h.c2)]; exact h.c2, by rw [hb.cell (cell_lt h.c3)]; exact h.c3, by rw [hb.cell (cell_lt h.c4)]; exact h.c4, by rw [hb.cell (cell_lt h.c5)]; exact h.c5, by rw [hb.cell (cell_lt h.c6)]; exact h.c6, h.row.later hb⟩
/-- v is a slice of steps that reads as st. -/
def ScrAt (w : World) (v : Value) (st : List Sp) : Prop :=
  ∃ a cap, v = .slice a st.length cap ∧ st.length ≤ cap ∧ cap ≤ maxLen ∧ st.length ≤ 1400000000000 ∧ (∀ s ∈ st, s.Ok) ∧ (st ≠ [] → ∃ b off, a = some ⟨b, off, none⟩ ∧ ∀ j, j < st.length → SpAt w b (off + j * 7) (st.getD j Sp.none))

theorem cells_step : Try.prog.cellsOf 31 = 7 := by kernel_rfl
theorem cells_3 : Try.prog.cellsOf 3 = 1 := by kernel_rfl
theorem cells_9 : Try.prog.cellsOf 9 = 1 := by kernel_rfl
theorem cells_B : Try.prog.cellsOf 28 = 1 := by kernel_rfl
theorem cells_I : Try.prog.cellsOf 29 = 1 := by kernel_rfl
theorem cells_u8 : Try.prog.cellsOf 5 = 1 := by kernel_rfl
theorem bytes_step : Try.prog.bytesOf 31 = 104 := by kernel_rfl
theorem bytes_u8 : Try.prog.bytesOf 5 = 1 := by kernel_rfl

theorem weights_agg {H : Type} {P : Program} {t t' : TypeId} {fs : Array Field} {parts : List (DataW H)} {d : DataW H} {j : Nat} (hu : P.underlying t = some (.struct fs)) (ht : (fs.toList.map (·.type))[j]? = some t') (hd : parts[j]? = some d) : ∀ n ∈ d.weights P t', n ∈ (DataW.agg parts).weights P t := fun n hn => by
  simp only [DataW.weights, hu]
  exact DataW.weights_mem_each ht hd n hn
theorem weights_all {H : Type} {P : Program} {e : TypeId} : ∀ {ds : List (DataW H)} {d : DataW H}, d ∈ ds → ∀ n ∈ d.weights P e, n ∈ DataW.weightsAll P e ds
  | [], d, h, _, _ => by simp at h
  | x :: ds, d, h, n, hn => by
    simp only [DataW.weightsAll, List.mem_append]
    rcases List.mem_cons.mp h with rfl | h
    · exact .inl hn
    · exact .inr (weights_all h n hn)
theorem weights_slice {H : Type} {P : Program} {t e : TypeId} {el sp : List (DataW H)} (hu : P.underlying t = some (.slice e)) : (el.length + sp.length) * P.bytesOf e ∈ (DataW.slice el sp).weights P t := by simp [DataW.weights, hu]
theorem weights_elem {H : Type} {P : Program} {t e : TypeId} {el sp : List (DataW H)} (hu : P.underlying t = some (.slice e)) {d : DataW H} (hd : d ∈ el) : ∀ n ∈ d.weights P e, n ∈ (DataW.slice el sp).weights P t := fun n hn => by
  simp only [DataW.weights, hu, List.mem_cons, List.mem_append]
  exact .inr (.inl (weights_all hd n hn))
theorem wfI {z : Int} (h : (Lit.int .i64 z).wf = true) : I64 z := by
  have := bounds_i64 h
  unfold I64
  omega

set_option maxRecDepth 100000 in
theorem open_sp {H : Type} {enc : TypeId × Value → H} {W : World} {n : Nat} {a : Addr} {i : Nat} {x : DataW H × List MemPlace} {cs' : List Value} (h1 : W.cells? 0 (a.add (i * Try.prog.cellsOf 31)) (Try.prog.cellsOf 31) = some cs')
    (h2 : DataW.trod enc Try.prog W 0 (fun _ => true) true n 31 cs' = some x) (hsz : ∀ m ∈ x.1.weights Try.prog 31, m ≤ reachBytes) :
    ∃ s : Sp, s.Ok ∧ BytesAt W s.vb s.data ∧ W.cell? ((a.add (i * 7)).add 0) = some (.int .i64 s.kd) ∧ W.cell? ((a.add (i * 7)).add 1) = some (.string s.nm) ∧ W.cell? ((a.add (i * 7)).add 2) = some (.string s.to) ∧ W.cell? ((a.add (i * 7)).add 3) = some (.int .i64 s.at') ∧
      W.cell? ((a.add (i * 7)).add 4) = some (.int .i64 s.n) ∧ W.cell? ((a.add (i * 7)).add 5) = some s.vb ∧ W.cell? ((a.add (i * 7)).add 6) = some s.vp := by
  rw [cells_step] at h1
  obtain ⟨_, hlen0, hcell⟩ := World.cells?_some h1
  obtain ⟨xs, m, _, hx, hl, hlen, hf⟩ := DataW.trod_struct Try.underlying31 h2
  rw [cells_step] at hl
  have hlen : xs.length = 7 := hlen
  match cs', hl with
  | [v0, v1, v2, v3, v4, v5, v6], _ =>
    match xs, hlen with
    | [y0, y1, y2, y3, y4, y5, y6], _ =>
      have k0 : DataW.trod enc Try.prog W 0 (fun _ => true) true m 3 [v0] = some y0 := by simpa [cells_3] using hf 0 _ rfl
      have k1 : DataW.trod enc Try.prog W 0 (fun _ => true) true m 9 [v1] = some y1 := by simpa [cells_9] using hf 1 _ rfl
      have k2 : DataW.trod enc Try.prog W 0 (fun _ => true) true m 9 [v2] = some y2 := by simpa [cells_9] using hf 2 _ rfl
      have k3 : DataW.trod enc Try.prog W 0 (fun _ => true) true m 3 [v3] = some y3 := by simpa [cells_3] using hf 3 _ rfl
      have k4 : DataW.trod enc Try.prog W 0 (fun _ => true) true m 3 [v4] = some y4 := by simpa [cells_3] using hf 4 _ rfl
      have k5 : DataW.trod enc Try.prog W 0 (fun _ => true) true m 28 [v5] = some y5 := by simpa [cells_B] using hf 5 _ rfl
      have k6 : DataW.trod enc Try.prog W 0 (fun _ => true) true m 29 [v6] = some y6 := by simpa [cells_I] using hf 6 _ rfl
      have hv6 : ∃ a m c, v6 = .slice a m c := by
        rcases open_ints Try.underlying29 Try.underlying3 cells_3 k6 with ⟨hcs, _⟩ | ⟨x0, l, c, zs, hcs, _⟩
        · simp at hcs; exact ⟨_, _, _, hcs⟩
        · simp at hcs; exact ⟨_, _, _, hcs⟩
      obtain ⟨n0, a0, _, w0⟩ := DataW.trod_int Try.underlying3 k0
      obtain ⟨s1, a1, _, w1⟩ := DataW.trod_string Try.underlying9 k1
      obtain ⟨s2, a2, _, w2⟩ := DataW.trod_string Try.underlying9 k2
      obtain ⟨n3, a3, _, w3⟩ := DataW.trod_int Try.underlying3 k3
      obtain ⟨n4, a4, _, w4⟩ := DataW.trod_int Try.underlying3 k4
      simp only [List.cons.injEq, and_true] at a0 a1 a2 a3 a4
      subst a0 a1 a2 a3 a4
      obtain ⟨l, hB, hll⟩ : ∃ l : List Nat, BytesAt W v5 l ∧ l.length ≤ 140737488351232 := by
        rcases open_ints Try.underlying28 Try.underlying5 cells_u8 k5 with ⟨hcs, _⟩ | ⟨x0, l, c, zs, hcs, _, hl0, hm0, hz, hx0, hcell0, hwz⟩
        · simp at hcs
          subst hcs
          exact ⟨[], BytesAt.nil W, by simp⟩
        · simp at hcs
          subst hcs
          simp only [if_true] at hz
          obtain ⟨l', g1, g2⟩ := bytes_of_row (w := W) (a := some x0) (len := l) (cap := c) (zs := zs) (.inr ⟨x0, rfl, hl0, hm0, hz, hcell0, hwz⟩)
          refine ⟨l', g2, ?_⟩
          have hw : ((lits (H := H) .u8 (zs.take l)).length + (lits (H := H) .u8 (zs.drop l)).length) * Try.prog.bytesOf 5 ≤ reachBytes := by
            refine hsz _ ?_
            rw [hx]
            refine weights_agg (t' := 28) (d := y5.1) (j := 5) Try.underlying31 rfl rfl _ ?_
            rw [hx0]
            exact weights_slice Try.underlying28
          rw [bytes_u8] at hw
          simp only [lits, List.length_map, List.length_take, List.length_drop, reachBytes] at hw
          omega
      exact ⟨⟨n0, s1, s2, n3, n4, v5, v6, l⟩, ⟨wfI w0, wfI w4, w1, w2, hll, hv6⟩, hB, by simpa using hcell 0 (by omega), by simpa using hcell 1 (by omega), by simpa using hcell 2 (by omega), by simpa using hcell 3 (by omega), by simpa using hcell 4 (by omega), by simpa using hcell 5 (by omega), by simpa using hcell 6 (by omega)⟩

theorem open_script {H : Type} {enc : TypeId × Value → H} {W : World} {fuel : Nat} {v : Value} {x : DataW H × List MemPlace} (h : DataW.trod enc Try.prog W 0 (fun _ => true) true fuel 22 [v] = some x)
    (hsz : ∀ m ∈ x.1.weights Try.prog 22, m ≤ reachBytes) : ∃ st : List Sp, ScrAt W v st := by
  rcases open_slice Try.underlying22 h with ⟨hcs, hx⟩ | ⟨a, len, cap, m, n, D, Pl, hcs, hb, hl, hm, hmm, hx, hel⟩
  · simp at hcs
    subst hcs
    exact ⟨[], none, 0, rfl, by simp, by simp, by simp, by simp, by simp⟩
  · simp at hcs
    subst hcs
    simp only [if_true] at hmm
    subst hmm
    have each : ∀ i, i < len → ∃ s : Sp, s.Ok ∧ BytesAt W s.vb s.data ∧ W.cell? ((a.add (i * 7)).add 0) = some (.int .i64 s.kd) ∧ W.cell? ((a.add (i * 7)).add 1) = some (.string s.nm) ∧ W.cell? ((a.add (i * 7)).add 2) = some (.string s.to) ∧ W.cell? ((a.add (i * 7)).add 3) = some (.int .i64 s.at') ∧
      W.cell? ((a.add (i * 7)).add 4) = some (.int .i64 s.n) ∧ W.cell? ((a.add (i * 7)).add 5) = some s.vb ∧ W.cell? ((a.add (i * 7)).add 6) = some s.vp := by
      intro i hi
      obtain ⟨cs', h1, h2⟩ := hel i (by omega)
      refine open_sp h1 h2 (fun q hq => hsz q ?_)
      rw [hx]
      exact weights_elem Try.underlying22 (List.mem_map.mpr ⟨i, List.mem_range.mpr hi, rfl⟩) q hq
    have iT : Inhabited Sp := ⟨Sp.none⟩
    obtain ⟨q, hq⟩ := choose_lt each
    have hbig : len ≤ 1400000000000 := by
      have := hsz _ (by rw [hx]; exact weights_slice Try.underlying22)
      rw [bytes_step] at this
      simp [reachBytes] at this
      omega
    have hlenq : ((List.range len).map q).length = len := by simp
    refine ⟨(List.range len).map q, some a, m, by rw [hlenq], by rw [hlenq]; exact hl, hm, by rw [hlenq]; exact hbig, ?_, ?_⟩
    · intro t ht
      obtain ⟨i, hi, rfl⟩ := List.mem_map.mp ht
      exact (hq i (List.mem_range.mp hi)).1
    · intro hne
      have hlen : 0 < len := by
        rcases Nat.eq_zero_or_pos len with rfl | h
        · simp at hne
        · exact h
      obtain ⟨b, off, spot⟩ := a
      have hspot : spot = none := by
        have := World.cell?_spot (hq 0 hlen).2.2.1
        simpa [Addr.add] using this
      subst hspot
      refine ⟨b, off, rfl, fun k hk => ?_⟩
      have hk' : k < len := by simpa using hk
      obtain ⟨_, hB, c0, c1, c2, c3, c4, c5, c6⟩ := hq k hk'
      rw [WideShapes.add_plain, WideShapes.add_plain] at c0 c1 c2 c3 c4 c5 c6
      have e : ((List.range len).map q).getD k Sp.none = q k := by simp [hk']
      rw [e]
      exact ⟨c0, c1, c2, c3, c4, c5, c6, hB⟩

theorem Dsk.ofSt {W w1 w2 : World} {d : Nat} {k : Dk} {S : Nat → Prop} (h1 : Below W.heap.size W w1) (h3 : ∀ x, S x → W.heap.size ≤ x) (h : St S w1 d k w2) : Dsk W d k w2 := by
  refine ⟨h1.trans (h.2.below h1.size h3), _, h.1, fun x hx => ?_⟩
  rcases hx with hx | hx
  · exact h3 x hx
  · have := h1.size; omega
theorem usedD {W w1 : World} {d : Nat} {k : Dk} (h : Dsk W d k w1) : Calls Try.prog 15 #[.pointer (some ⟨d, 0, none⟩)] w1 fun e w2 => e = .returned (.int .i64 k.used) ∧ w2 = w1 := by
  obtain ⟨h1, S, h2, h3⟩ := h
  exact usedOf (St.start h2)
theorem imageD {W w1 : World} {d n : Nat} {k : Dk} (h : Dsk W d k w1) (hk : k.Dok n) : Calls Try.prog 10 #[.pointer (some ⟨d, 0, none⟩)] w1 fun e w2 => ∃ a l c, e = .returned (.slice a l c) ∧ ImgAt w2 (.slice a l c) (imK k) w1.heap.size ∧ Dsk W d k w2 ∧ Below w1.heap.size w1 w2 := by
  have h0 := h
  obtain ⟨h1, S, h2, h3⟩ := h
  refine (imageAll w1 d k n S h2 hk).mono ?_
  rintro e w2 ⟨a, l, c, rfl, hi, hb⟩
  exact ⟨a, l, c, rfl, hi, h0.later hb, hb⟩
theorem imK_len {k : Dk} {n : Nat} (h : k.Dok n) : (imK k).length ≤ 65536 := by
  unfold imK
  rw [imgL_len, nms_len]
  exact h.few
/-- What a disk keeps in a law with one disk that stays on. -/
structure Dk.Good (k : Dk) (n : Nat) : Prop where
  dok : k.Dok n
  sum : k.Sum
  on : k.On
theorem Dk.Good.chK {k : Dk} {n G : Nat} {kd m : Int} {nm to : ByteArray} {l : List Nat} (h : k.Good n) (hs : nm.size ≤ maxLen) (ht : to.size ≤ maxLen) (hn : n ≤ 4398046511102) (hG : ¬ k.live G) : (chK k kd nm to m l G).2.Good (n + 1) :=
  ⟨chK_dok h.dok h.sum.uok hs ht hn, chK_sum h.sum h.dok.ok.refs hG, h.on.chK.1⟩
theorem Dk.Good.quotas {k : Dk} {n : Nat} {q : Int} (h : k.Good n) (hq : qB q = true) : (k.quotas q).Good n := by
  have hq' : 0 ≤ q ∧ q ≤ 1073741824 := by simpa [qB] using hq
  obtain ⟨⟨⟨a1, a2, a3, a4⟩, b2, b3, b4, b5⟩, ⟨c1, c2, c3, c4, c5⟩, ⟨d1, d2⟩⟩ := h
  exact ⟨⟨⟨a1, a2, a3, a4⟩, b2, b3, b4, b5⟩, ⟨c1, c2, c3, hq', c5⟩, ⟨d1, d2⟩⟩
theorem Dk.Good.mono {k : Dk} {n m : Nat} (h : k.Good n) (hm : n ≤ m) : k.Good m := ⟨h.dok.mono hm, h.sum, h.on⟩
end Go.Proofs.Ytgpmhflndcppeaa

/-! Operations on a disk that has nothing to do with some blocks: these stay. -/
namespace Go.Proofs.Ytgpmhflndcppeaa
open Go.RowKit Go.Maps Plain
set_option linter.unusedVariables false
set_option linter.unusedSimpArgs false

/-- The blocks P of world W are there as they were. -/
structure Keep (P : Nat → Prop) (W w : World) : Prop where
  os : w.os = W.os
  tape : w.tape = W.tape
  output : w.output = W.output
  size : W.heap.size ≤ w.heap.size
  lt : ∀ x, P x → x < W.heap.size
  block : ∀ x, P x → w.heap[x]? = W.heap[x]?
theorem Keep.refl {P : Nat → Prop} {W : World} (h : ∀ x, P x → x < W.heap.size) : Keep P W W := ⟨rfl, rfl, rfl, Nat.le_refl _, h, fun _ _ => rfl⟩
theorem Keep.later {P : Nat → Prop} {W w w' : World} (h : Keep P W w) (hb : Below w.heap.size w w') : Keep P W w' :=
  ⟨hb.os.trans h.os, hb.tape.trans h.tape, hb.output.trans h.output, Nat.le_trans h.size hb.size, h.lt, fun x hx => (hb.block x (Nat.lt_of_lt_of_le (h.lt x hx) h.size)).trans (h.block x hx)⟩
theorem Keep.chg {P S : Nat → Prop} {W w w' : World} (h : Keep P W w) (hc : Chg S w w') (hS : ∀ x, S x → ¬ P x) : Keep P W w' :=
  ⟨hc.os.trans h.os, hc.tape.trans h.tape, hc.output.trans h.output, Nat.le_trans h.size hc.size, h.lt, fun x hx => (hc.block x (Nat.lt_of_lt_of_le (h.lt x hx) h.size) (fun hs => hS x hs hx)).trans (h.block x hx)⟩
theorem Keep.below {P : Nat → Prop} {W w : World} {B : Nat} (h : Keep P W w) (hP : ∀ x, x < B → P x) : Below B W w := ⟨h.os, h.tape, h.output, h.size, fun x hx => h.block x (hP x hx)⟩
theorem Keep.cell {P : Nat → Prop} {W w : World} {b o : Nat} {v : Value} (h : Keep P W w) (hb : P b) (hc : W.cell? ⟨b, o, none⟩ = some v) : w.cell? ⟨b, o, none⟩ = some v := by
  rw [World.cell?_of_block (w := W) (a := ⟨b, o, none⟩) (h.block b hb)]; exact hc
def DskP (P : Nat → Prop) (W : World) (d : Nat) (k : Dk) (w1 : World) : Prop := Keep P W w1 ∧ ∃ S, DiskAt w1 d k S ∧ ∀ x, S x → ¬ P x
theorem DskP.later {P : Nat → Prop} {W w1 w2 : World} {d : Nat} {k : Dk} (h : DskP P W d k w1) (hb : Below w1.heap.size w1 w2) : DskP P W d k w2 := by
  obtain ⟨h1, S, h2, h3⟩ := h
  exact ⟨h1.later hb, S, h2.later hb, h3⟩
theorem DskP.liveLt {P : Nat → Prop} {W w1 : World} {d G : Nat} {k : Dk} (h : DskP P W d k w1) (hG : k.live G) : G < w1.heap.size := by
  obtain ⟨_, S, ⟨ms, md, vc, rc, Sf, hm, _⟩, _⟩ := h
  exact (hm.files G hG).self
theorem DskP.ext {P S : Nat → Prop} {W w1 w2 : World} (h1 : Keep P W w1) (h3 : ∀ x, S x → ¬ P x) : ∀ x, Ext S w1 w2 x → ¬ P x := fun x hx hp => by
  rcases hx with hx | hx
  · exact h3 x hx hp
  · have := h1.lt x hp; have := h1.size; omega
theorem DskP.op {P : Nat → Prop} {W w1 w2 : World} {d : Nat} {S : Nat → Prop} {r : Int × Dk} {e : Ending} (h1 : Keep P W w1) (h3 : ∀ x, S x → ¬ P x) (h : OpPost d r S w1 e w2) : e = .returned (.int .i64 r.1) ∧ DskP P W d r.2 w2 := by
  obtain ⟨rfl, h4, h5⟩ := h
  exact ⟨rfl, h1.chg h5 h3, _, h4, DskP.ext h1 h3⟩
theorem DskP.ofSt {P : Nat → Prop} {W w1 w2 : World} {d : Nat} {k : Dk} {S : Nat → Prop} (h1 : Keep P W w1) (h3 : ∀ x, S x → ¬ P x) (h : St S w1 d k w2) : DskP P W d k w2 := ⟨h1.chg h.2 h3, _, h.1, DskP.ext h1 h3⟩
/-- A disk of new memory has nothing to do with the elder blocks; nor with a block that is newer than it. -/
theorem Dsk.toP {W w1 w2 : World} {d : Nat} {k : Dk} {B : Nat} (h : Dsk W d k w1) (hb : Below w1.heap.size w1 w2) (hB : w1.heap.size ≤ B) (hB2 : B < w2.heap.size) : DskP (fun x => x < W.heap.size ∨ x = B) w2 d k w2 := by
  obtain ⟨h1, S, h2, h3⟩ := h
  have hs1 := h1.size
  have hs2 := hb.size
  refine ⟨Keep.refl (fun x hx => ?_), S, h2.later hb, fun x hx hp => ?_⟩
  · rcases hx with hx | hx <;> omega
  · have e1 := h3 x hx
    have e2 := h2.rng x hx
    rcases hp with hp | hp <;> omega
theorem DskP.back {W W' w1 : World} {d : Nat} {k : Dk} {B : Nat} (h : DskP (fun x => x < W.heap.size ∨ x = B) W' d k w1) (hb : Below W.heap.size W W') : Dsk W d k w1 := by
  obtain ⟨h1, S, h2, h3⟩ := h
  refine ⟨hb.trans (h1.below (fun x hx => .inl hx)), S, h2, fun x hx => ?_⟩
  have := h3 x hx
  by_cases hlt : x < W.heap.size
  · exact absurd (.inl hlt) this
  · omega
abbrev PPost (P : Nat → Prop) (W : World) (d : Nat) (r : Int × Dk) : Ending → World → Prop := fun e w2 => e = .returned (.int .i64 r.1) ∧ DskP P W d r.2 w2
theorem createP {P : Nat → Prop} {W w1 : World} {d n : Nat} {k : Dk} {s : ByteArray} (h : DskP P W d k w1) (hs : s.size ≤ maxLen) (hk : k.Dok n) (hn : n ≤ 4398046511103) : Calls Try.prog 12 #[.pointer (some ⟨d, 0, none⟩), .string s] w1 fun e w2 => ∃ G, w1.heap.size ≤ G ∧ PPost P W d (createK k s G) e w2 := by
  obtain ⟨h1, S, h2, h3⟩ := h
  refine (createOf d k n S s hs w1 h2 hk hn).mono ?_
  rintro e w2 ⟨G, hG, hp⟩
  exact ⟨G, hG, DskP.op h1 h3 hp⟩
theorem syncP {P : Nat → Prop} {W w1 : World} {d n : Nat} {k : Dk} {s : ByteArray} (h : DskP P W d k w1) (hs : s.size ≤ maxLen) (hk : k.Dok n) (hn : n ≤ 4398046511103) : Calls Try.prog 26 #[.pointer (some ⟨d, 0, none⟩), .string s] w1 (PPost P W d (syncK k s)) := by
  obtain ⟨h1, S, h2, h3⟩ := h
  refine (syncOf d k n S s hs w1 h2 hk.ok hn).mono ?_
  rintro e w2 hp
  exact DskP.op h1 h3 hp
theorem syncDirP {P : Nat → Prop} {W w1 : World} {d n : Nat} {k : Dk} (h : DskP P W d k w1) (hk : k.Dok n) (hn : n ≤ 4398046511103) : Calls Try.prog 27 #[.pointer (some ⟨d, 0, none⟩)] w1 (PPost P W d (syncDirK k)) := by
  obtain ⟨h1, S, h2, h3⟩ := h
  refine (syncDirOf d k n S w1 h2 hk hn).mono ?_
  rintro e w2 hp
  exact DskP.op h1 h3 hp
theorem renameP {P : Nat → Prop} {W w1 : World} {d n : Nat} {k : Dk} {s t : ByteArray} (h : DskP P W d k w1) (hs : s.size ≤ maxLen) (ht : t.size ≤ maxLen) (hk : k.Dok n) (hu : k.Uok) (hn : n ≤ 4398046511103) : Calls Try.prog 28 #[.pointer (some ⟨d, 0, none⟩), .string s, .string t] w1 (PPost P W d (renameK k s t)) := by
  obtain ⟨h1, S, h2, h3⟩ := h
  refine (renameOf d k n S s t hs ht w1 h2 hk hu hn).mono ?_
  rintro e w2 hp
  exact DskP.op h1 h3 hp
theorem truncP {P : Nat → Prop} {W w1 : World} {d n : Nat} {k : Dk} {s : ByteArray} {m : Int} (h : DskP P W d k w1) (hs : s.size ≤ maxLen) (hm : I64 m) (hk : k.Dok n) (hu : k.Uok) (hn : n ≤ 4398046511103) : Calls Try.prog 25 #[.pointer (some ⟨d, 0, none⟩), .string s, .int .i64 m] w1 (PPost P W d (truncK k s m)) := by
  obtain ⟨h1, S, h2, h3⟩ := h
  refine (truncOf d k n S s hs m hm.1 hm.2 w1 h2 hk.ok hu hn).mono ?_
  rintro e w2 hp
  exact DskP.op h1 h3 hp
theorem removeP {P : Nat → Prop} {W w1 : World} {d n : Nat} {k : Dk} {s : ByteArray} (h : DskP P W d k w1) (hs : s.size ≤ maxLen) (hk : k.Dok n) (hu : k.Uok) (hn : n ≤ 4398046511103) : Calls Try.prog 29 #[.pointer (some ⟨d, 0, none⟩), .string s] w1 (PPost P W d (removeK k s)) := by
  obtain ⟨h1, S, h2, h3⟩ := h
  refine (removeOf d k n S s hs w1 h2 hk hu hn).mono ?_
  rintro e w2 hp
  exact DskP.op h1 h3 hp
theorem usedP {P : Nat → Prop} {W w1 : World} {d : Nat} {k : Dk} (h : DskP P W d k w1) : Calls Try.prog 15 #[.pointer (some ⟨d, 0, none⟩)] w1 fun e w2 => e = .returned (.int .i64 k.used) ∧ w2 = w1 := by
  obtain ⟨h1, S, h2, h3⟩ := h
  exact usedOf (St.start h2)
theorem imageP {P : Nat → Prop} {W w1 : World} {d n : Nat} {k : Dk} (h : DskP P W d k w1) (hk : k.Dok n) : Calls Try.prog 10 #[.pointer (some ⟨d, 0, none⟩)] w1 fun e w2 => ∃ a l c, e = .returned (.slice a l c) ∧ ImgAt w2 (.slice a l c) (imK k) w1.heap.size ∧ DskP P W d k w2 ∧ Below w1.heap.size w1 w2 := by
  have h0 := h
  obtain ⟨h1, S, h2, h3⟩ := h
  refine (imageAll w1 d k n S h2 hk).mono ?_
  rintro e w2 ⟨a, l, c, rfl, hi, hb⟩
  exact ⟨a, l, c, rfl, hi, h0.later hb, hb⟩
end Go.Proofs.Ytgpmhflndcppeaa

/-! Two disks that are alike, up to the numbers of their files. -/
namespace Go.Proofs.Ytgpmhflndcppeaa
open Go.RowKit Go.Maps Plain
set_option linter.unusedVariables false
set_option linter.unusedSimpArgs false

abbrev Rel := Nat → Nat → Prop
/-- Directories with the same names, the files of each pair alike. -/
def DirR (R : Rel) : Dir → Dir → Prop
  | [], [] => True
  | p :: L, q :: M => (p.1 = q.1 ∧ R p.2 q.2) ∧ DirR R L M
  | _, _ => False
theorem DirR.mono {R R' : Rel} (hR : ∀ a b, R a b → R' a b) : ∀ {L M : Dir}, DirR R L M → DirR R' L M
  | [], [], h => trivial
  | p :: L, q :: M, h => ⟨⟨h.1.1, hR _ _ h.1.2⟩, DirR.mono hR h.2⟩
  | [], q :: M, h => h.elim
  | p :: L, [], h => h.elim
theorem DirR.keys {R : Rel} : ∀ {L M : Dir}, DirR R L M → L.map (·.1) = M.map (·.1)
  | [], [], h => rfl
  | p :: L, q :: M, h => by rw [List.map_cons, List.map_cons, h.1.1, DirR.keys h.2]
  | [], q :: M, h => h.elim
  | p :: L, [], h => h.elim
theorem DirR.len {R : Rel} {L M : Dir} (h : DirR R L M) : L.length = M.length := by
  have := congrArg List.length h.keys
  simpa using this
/-- What the two look-ups find. -/
def LkR (R : Rel) (x y : Option Nat) : Prop := (x = none ∧ y = none) ∨ ∃ a b, x = some a ∧ y = some b ∧ R a b
theorem DirR.look {R : Rel} (k : Nm) : ∀ {L M : Dir}, DirR R L M → LkR R (look L k) (look M k)
  | [], [], h => .inl ⟨rfl, rfl⟩
  | p :: L, q :: M, h => by
    unfold Go.Proofs.Ytgpmhflndcppeaa.look
    rw [List.find?_cons, List.find?_cons, ← h.1.1]
    by_cases e : p.1 = k
    · rw [show (p.1 == k) = true by simpa using e]
      exact .inr ⟨p.2, q.2, rfl, rfl, h.1.2⟩
    · rw [show (p.1 == k) = false by simpa using e]
      exact DirR.look k h.2
  | [], q :: M, h => h.elim
  | p :: L, [], h => h.elim
theorem DirR.ins {R : Rel} {k : Nm} {a b : Nat} (hab : R a b) : ∀ {L M : Dir}, DirR R L M → DirR R (ins (k, a) L) (ins (k, b) M)
  | [], [], h => ⟨⟨rfl, hab⟩, trivial⟩
  | p :: L, q :: M, h => by
    unfold Go.Proofs.Ytgpmhflndcppeaa.ins
    rw [← h.1.1]
    by_cases e : (Lit.string (k, a).1).before (.string p.1) = true
    · rw [if_pos e, if_pos e]
      exact ⟨⟨rfl, hab⟩, h⟩
    · rw [if_neg e, if_neg e]
      exact ⟨h.1, DirR.ins hab h.2⟩
  | [], q :: M, h => h.elim
  | p :: L, [], h => h.elim
theorem DirR.del {R : Rel} (k : Nm) : ∀ {L M : Dir}, DirR R L M → DirR R (del L k) (del M k)
  | [], [], h => trivial
  | p :: L, q :: M, h => by
    rw [del_cons, del_cons, ← h.1.1]
    by_cases e : p.1 = k
    · rw [if_pos e, if_pos e]; exact DirR.del k h.2
    · rw [if_neg e, if_neg e]; exact ⟨h.1, DirR.del k h.2⟩
  | [], q :: M, h => h.elim
  | p :: L, [], h => h.elim
theorem DirR.put {R : Rel} {k : Nm} {a b : Nat} {L M : Dir} (h : DirR R L M) (hab : R a b) : DirR R (put L k a) (put M k b) := DirR.ins hab (h.del k)
theorem DirR.mem {R : Rel} : ∀ {L M : Dir}, DirR R L M → ∀ p ∈ L, ∃ b, R p.2 b
  | [], [], h, p, hp => by simp at hp
  | p0 :: L, q :: M, h, p, hp => by
    rcases List.mem_cons.mp hp with rfl | hp
    · exact ⟨_, h.1.2⟩
    · exact DirR.mem h.2 p hp
  | [], q :: M, h, _, _ => h.elim
  | p0 :: L, [], h, _, _ => h.elim

/-- Changes of the directory that are alike. -/
def DCR (R : Rel) (c1 c2 : DC) : Prop := (∃ k a b, c1 = DC.mk k a ∧ c2 = DC.mk k b ∧ R a b) ∨ (∃ a b, c1 = DC.mv a b ∧ c2 = DC.mv a b) ∨ ∃ k, c1 = DC.rm k ∧ c2 = DC.rm k
theorem DCR.mono {R R' : Rel} (hR : ∀ a b, R a b → R' a b) {c1 c2 : DC} (h : DCR R c1 c2) : DCR R' c1 c2 := by
  rcases h with ⟨k, a, b, h1, h2, h3⟩ | h | h
  · exact .inl ⟨k, a, b, h1, h2, hR _ _ h3⟩
  · exact .inr (.inl h)
  · exact .inr (.inr h)
theorem DCR.on {R : Rel} {c1 c2 : DC} (h : DCR R c1 c2) {L M : Dir} (hd : DirR R L M) : DirR R (DC.on L c1) (DC.on M c2) := by
  rcases h with ⟨k, a, b, rfl, rfl, h3⟩ | ⟨a, b, rfl, rfl⟩ | ⟨k, rfl, rfl⟩
  · rw [DC.on_mk, DC.on_mk]; exact hd.put h3
  · rw [DC.on_mv, DC.on_mv]
    rcases hd.look a with ⟨e1, e2⟩ | ⟨x, y, e1, e2, hxy⟩
    · rw [e1, e2]; exact hd
    · rw [e1, e2]; exact (hd.put hxy).del a
  · rw [DC.on_rm, DC.on_rm]; exact hd.del k
def CsR (R : Rel) : List DC → List DC → Prop
  | [], [] => True
  | c :: L, d :: M => DCR R c d ∧ CsR R L M
  | _, _ => False
theorem CsR.mono {R R' : Rel} (hR : ∀ a b, R a b → R' a b) : ∀ {L M : List DC}, CsR R L M → CsR R' L M
  | [], [], h => trivial
  | p :: L, q :: M, h => ⟨h.1.mono hR, CsR.mono hR h.2⟩
  | [], q :: M, h => h.elim
  | p :: L, [], h => h.elim
theorem CsR.len {R : Rel} : ∀ {L M : List DC}, CsR R L M → L.length = M.length
  | [], [], h => rfl
  | p :: L, q :: M, h => by rw [List.length_cons, List.length_cons, CsR.len h.2]
  | [], q :: M, h => h.elim
  | p :: L, [], h => h.elim
theorem CsR.snoc {R : Rel} {c d : DC} (hcd : DCR R c d) : ∀ {L M : List DC}, CsR R L M → CsR R (L ++ [c]) (M ++ [d])
  | [], [], h => ⟨hcd, trivial⟩
  | p :: L, q :: M, h => ⟨h.1, CsR.snoc hcd h.2⟩
  | [], q :: M, h => h.elim
  | p :: L, [], h => h.elim
theorem CsR.take {R : Rel} : ∀ (n : Nat) {L M : List DC}, CsR R L M → CsR R (L.take n) (M.take n)
  | 0, L, M, h => by simp only [List.take_zero]; trivial
  | n + 1, [], [], h => trivial
  | n + 1, p :: L, q :: M, h => ⟨h.1, CsR.take n h.2⟩
  | n + 1, [], q :: M, h => h.elim
  | n + 1, p :: L, [], h => h.elim
theorem CsR.dst {R : Rel} : ∀ {cs ds : List DC} {L M : Dir}, CsR R cs ds → DirR R L M → DirR R (dst L cs) (dst M ds)
  | [], [], L, M, h, hd => hd
  | c :: cs, d :: ds, L, M, h, hd => by
    show DirR R (Go.Proofs.Ytgpmhflndcppeaa.dst (DC.on L c) cs) (Go.Proofs.Ytgpmhflndcppeaa.dst (DC.on M d) ds)
    exact CsR.dst (cs := cs) (ds := ds) h.2 (h.1.on hd)
  | [], d :: ds, L, M, h, hd => h.elim
  | c :: cs, [], L, M, h, hd => h.elim

/-- The two disks have the same files under the same names, seen and durable, and the same changes between. -/
structure Sib (R : Rel) (k1 k2 : Dk) : Prop where
  one : ∀ a b a' b', R a b → R a' b' → (a = a' ↔ b = b')
  live : ∀ a b, R a b → k1.live a ∧ k2.live b
  file : ∀ a b, R a b → k1.file a = k2.file b
  L : DirR R k1.L k2.L
  Ld : DirR R k1.Ld k2.Ld
  chg : CsR R k1.chg k2.chg
  used : k1.used = k2.used
  quota : k1.quota = k2.quota
theorem Sib.size {R : Rel} {k1 k2 : Dk} (h : Sib R k1 k2) (s : ByteArray) : sizeK k1 s = sizeK k2 s := by
  unfold sizeK
  rcases h.L.look s.data.toList with ⟨e1, e2⟩ | ⟨a, b, e1, e2, hab⟩
  · rw [e1, e2]; rfl
  · rw [e1, e2]
    show (k1.file a).seen.length = (k2.file b).seen.length
    rw [h.file a b hab]
theorem imgL_R {σ : Type} {R : Rel} {L M : Dir} (h : DirR R L M) (B1 B2 : σ → Nat → List Nat) (n1 n2 : σ → Nat → σ) (hB : ∀ s a b, R a b → B1 s a = B2 s b ∧ n1 s a = n2 s b) : ∀ (ks : List Nm) (s : σ), (∀ k ∈ ks, k ∈ L.map (·.1)) → imgL L B1 n1 s ks = imgL M B2 n2 s ks
  | [], s, _ => rfl
  | k :: ks, s, hk => by
    obtain ⟨g, hg⟩ := look_some (hk k (by simp))
    rcases h.look k with ⟨e1, _⟩ | ⟨a, b, e1, e2, hab⟩
    · rw [hg] at e1; simp at e1
    · have f1 : fileOf L k = a := by unfold fileOf; rw [e1]; rfl
      have f2 : fileOf M k = b := by unfold fileOf; rw [e2]; rfl
      simp only [imgL, f1, f2]
      rw [(hB s a b hab).1, (hB s a b hab).2, imgL_R h B1 B2 n1 n2 hB ks _ (fun x hx => hk x (by simp [hx]))]
theorem nms_R {R : Rel} {L M : Dir} (h : DirR R L M) : nms L = nms M := by unfold nms; rw [h.keys]
theorem Sib.image {R : Rel} {k1 k2 : Dk} (h : Sib R k1 k2) : imK k1 = imK k2 := by
  unfold imK
  rw [← nms_R h.L]
  exact imgL_R h.L _ _ _ _ (fun s a b hab => ⟨by rw [h.file a b hab], rfl⟩) _ _ (fun k hk => nms_mem.mp hk)
theorem Sib.crash {R : Rel} {k1 k2 : Dk} (h : Sib R k1 k2) (ps : List Int) : crK k1 ps = crK k2 ps := by
  unfold crK
  have hL : DirR R (crL k1 ps) (crL k2 ps) := by
    unfold crL
    rw [← h.chg.len]
    exact (h.chg.take _).dst h.Ld
  rw [← nms_R hL]
  exact imgL_R hL _ _ _ _ (fun s a b hab => ⟨by rw [h.file a b hab], by rw [h.file a b hab]⟩) _ _ (fun k hk => nms_mem.mp hk)
/-- A file of both has turned, in the same way. -/
theorem Sib.setFile {R : Rel} {k1 k2 : Dk} (h : Sib R k1 k2) {a b : Nat} (hab : R a b) (f : Fl) (u : Int) : Sib R ((k1.setFile a f).uses u) ((k2.setFile b f).uses u) := by
  refine ⟨h.one, h.live, fun x y hxy => ?_, h.L, h.Ld, h.chg, rfl, h.quota⟩
  show upd k1.file a f x = upd k2.file b f y
  by_cases e : x = a
  · have e2 : y = b := (h.one x y a b hxy hab).mp e
    rw [e, e2, upd_same, upd_same]
  · have e2 : y ≠ b := fun e2 => e ((h.one x y a b hxy hab).mpr e2)
    rw [upd_other _ _ _ _ e, upd_other _ _ _ _ e2]
    exact h.file x y hxy
theorem Sib.did {R : Rel} {k1 k2 : Dk} (h : Sib R k1 k2) {c1 c2 : DC} (hc : DCR R c1 c2) (u : Int) : Sib R ((k1.uses u).did c1) ((k2.uses u).did c2) :=
  ⟨h.one, h.live, h.file, hc.on h.L, h.Ld, CsR.snoc hc h.chg, rfl, h.quota⟩
theorem Sib.settled {R : Rel} {k1 k2 : Dk} (h : Sib R k1 k2) : Sib R k1.settled k2.settled := ⟨h.one, h.live, h.file, h.L, h.L, trivial, h.used, h.quota⟩
theorem Sib.spent {R : Rel} {k1 k2 : Dk} (h : Sib R k1 k2) : Sib R k1.spent k2.spent := ⟨h.one, h.live, h.file, h.L, h.Ld, h.chg, h.used, h.quota⟩
theorem Sib.spentL {R : Rel} {k1 k2 : Dk} (h : Sib R k1 k2) : Sib R k1 k2.spent := ⟨h.one, h.live, h.file, h.L, h.Ld, h.chg, h.used, h.quota⟩
theorem Sib.find {R : Rel} {k1 k2 : Dk} (h : Sib R k1 k2) (hd : k1.dead = k2.dead) (s : ByteArray) : (fnd k1.dead k1.L s).2 = (fnd k2.dead k2.L s).2 := by
  unfold fnd
  rw [hd]
  cases k2.dead with
  | true => rfl
  | false =>
    cases nmL s.data.toList with
    | false => rfl
    | true =>
      rcases h.L.look s.data.toList with ⟨e1, e2⟩ | ⟨a, b, e1, e2, hab⟩
      · rw [e1, e2]
      · rw [e1, e2]; rfl
/-- A new file of both. -/
theorem Sib.addFile {R : Rel} {k1 k2 : Dk} (h : Sib R k1 k2) {a b : Nat} (ha : ¬ k1.live a) (hb : ¬ k2.live b) : Sib (fun x y => R x y ∨ (x = a ∧ y = b)) (k1.addFile a) (k2.addFile b) := by
  have hm : ∀ x y, R x y → (R x y ∨ (x = a ∧ y = b)) := fun _ _ h => .inl h
  refine ⟨fun x y x' y' h1 h2 => ?_, fun x y hxy => ?_, fun x y hxy => ?_, h.L.mono hm, h.Ld.mono hm, h.chg.mono hm, h.used, h.quota⟩
  · rcases h1 with h1 | ⟨rfl, rfl⟩
    · rcases h2 with h2 | ⟨rfl, rfl⟩
      · exact h.one _ _ _ _ h1 h2
      · exact ⟨fun e => absurd (by rw [← e]; exact (h.live _ _ h1).1) ha, fun e => absurd (by rw [← e]; exact (h.live _ _ h1).2) hb⟩
    · rcases h2 with h2 | ⟨rfl, rfl⟩
      · exact ⟨fun e => absurd (by rw [e]; exact (h.live _ _ h2).1) ha, fun e => absurd (by rw [e]; exact (h.live _ _ h2).2) hb⟩
      · exact ⟨fun _ => rfl, fun _ => rfl⟩
  · rcases hxy with hxy | ⟨rfl, rfl⟩
    · exact ⟨.inl (h.live _ _ hxy).1, .inl (h.live _ _ hxy).2⟩
    · exact ⟨.inr rfl, .inr rfl⟩
  · show upd k1.file a ⟨[], [], []⟩ x = upd k2.file b ⟨[], [], []⟩ y
    rcases hxy with hxy | ⟨rfl, rfl⟩
    · rw [upd_other _ _ _ _ (fun e => ha (by rw [← e]; exact (h.live _ _ hxy).1)), upd_other _ _ _ _ (fun e => hb (by rw [← e]; exact (h.live _ _ hxy).2))]
      exact h.file _ _ hxy
    · rw [upd_same, upd_same]
end Go.Proofs.Ytgpmhflndcppeaa
