import Derived.Test.YtjefbcphefckiacUa
/-! An item is read. -/
namespace Go.Proofs.Ytjefbcphefckiac
open Go.RowKit Plain
set_option linter.unusedVariables false

def readIt (s : Rs) (k most : Int) : It × Rs :=
  if k = 0 then (⟨k, val 0 (s.out 1) % 256, ⟨#[]⟩⟩, s.on 1) else if k = 1 ∨ k = 2 then (⟨k, s.num.1, ⟨#[]⟩⟩, s.uvOn) else if k = 3 then (⟨k, val 0 (s.out 4) % 4294967296, ⟨#[]⟩⟩, s.on 4)
  else if k = 4 then (⟨k, val 0 (s.out 8), ⟨#[]⟩⟩, s.on 8) else if k = 5 then (⟨k, 0, strOf (s.textOut most)⟩, s.textOn most) else (⟨k, 0, ⟨#[]⟩⟩, s)

abbrev ItPost (w : World) (b : Nat) (r : Option Nat) (x : It × Rs) : Ending → World → Prop := fun e w' =>
  e = .returned (.agg #[.int .i64 x.1.k, .int .u64 (x.1.n : Int), .string x.1.s]) ∧ PA w' b x.2 r ∧ w.grownBy w' (some b)

/-- The two boxes of the call. -/
def box2 (w : World) (k : Int) : World := (w.alloc (.cells #[.int .i64 0, .int .u64 0, .string ⟨#[]⟩] 32)).alloc (.cells #[.int .i64 k, .int .u64 0, .string ⟨#[]⟩] 32)

theorem box2_below (w : World) (k : Int) : Below w.heap.size w (box2 w k) := ((Below.refl _ _).alloc (Nat.le_refl _) _).alloc (by simp) _
theorem box2_size (w : World) (k : Int) : (box2 w k).heap.size = w.heap.size + 2 := by simp [box2]
theorem box2_at (w w1 : World) (k : Int) (b : Nat) (hb : b < w.heap.size) (h : (box2 w k).grownBy w1 (some b)) :
    w1.cell? ⟨w.heap.size, 0, none⟩ = some (.int .i64 0) ∧ w1.cell? ⟨w.heap.size, 1, none⟩ = some (.int .u64 0) ∧ w1.cell? ⟨w.heap.size, 2, none⟩ = some (.string ⟨#[]⟩) ∧ (∀ j, w1.frozen? ⟨w.heap.size, j, none⟩ = false) ∧
    w1.cell? ⟨w.heap.size + 1, 0, none⟩ = some (.int .i64 k) ∧ w1.cell? ⟨w.heap.size + 1, 1, none⟩ = some (.int .u64 0) ∧ w1.cell? ⟨w.heap.size + 1, 2, none⟩ = some (.string ⟨#[]⟩) ∧ (∀ j, w1.frozen? ⟨w.heap.size + 1, j, none⟩ = false) := by
  have hs := box2_size w k
  have h6 := h.block w.heap.size (by omega) (by simp; omega)
  have h7 := h.block (w.heap.size + 1) (by omega) (by simp; omega)
  refine ⟨?_, ?_, ?_, fun j => ?_, ?_, ?_, ?_, fun j => ?_⟩
  · rw [World.cell?_of_block (a := ⟨w.heap.size, 0, none⟩) h6]; simp [box2]
  · rw [World.cell?_of_block (a := ⟨w.heap.size, 1, none⟩) h6]; simp [box2]
  · rw [World.cell?_of_block (a := ⟨w.heap.size, 2, none⟩) h6]; simp [box2]
  · rw [World.frozen?_of_block (a := ⟨w.heap.size, j, none⟩) h6]; simp [box2]
  · rw [World.cell?_of_block (a := ⟨w.heap.size + 1, 0, none⟩) h7]; simp [box2]
  · rw [World.cell?_of_block (a := ⟨w.heap.size + 1, 1, none⟩) h7]; simp [box2]
  · rw [World.cell?_of_block (a := ⟨w.heap.size + 1, 2, none⟩) h7]; simp [box2]
  · rw [World.frozen?_of_block (a := ⟨w.heap.size + 1, j, none⟩) h7]; simp [box2]

theorem PA.low {w w' : World} {b B : Nat} {s : Rs} {r : Option Nat} (h : PA w b s r) (k : Below B w w') (hb : b < B) (hr : ∀ q, r = some q → q < B) : PA w' b s r := by
  have hbl := k.block b hb
  rcases h with ⟨h0, dv, h⟩ | ⟨h0, h⟩
  · exact .inl ⟨h0, dv, h.kept k.size hbl (fun q hq => k.block q (hr q hq))⟩
  · exact .inr ⟨h0, h.kept k.size hbl (by simp)⟩

theorem itEnd {w w1 w2 : World} {b : Nat} {s : Rs} {r : Option Nat} (hp : PA w1 b s r) (hg : w.grownBy w1 (some b)) (k : Below w.heap.size w1 w2) (hb : b < w.heap.size) (hr : ∀ q, r = some q → q < w.heap.size) : PA w2 b s r ∧ w.grownBy w2 (some b) :=
  ⟨hp.low k hb hr, ⟨k.os.trans hg.os, k.tape.trans hg.tape, k.output.trans hg.output, Nat.le_trans hg.size k.size, fun i hi hne => (k.block i hi).trans (hg.block i hi hne)⟩⟩

set_option maxHeartbeats 1000000 in
theorem item0 (w : World) (b : Nat) (s : Rs) (r : Option Nat) (most : Int) (hm1 : -9223372036854775808 ≤ most) (hm2 : most ≤ 9223372036854775807) (h : PA w b s r) (hr : ∀ q, r = some q → q < w.heap.size) :
    Calls Try.prog 22 #[.pointer (some ⟨b, 0, none⟩), .int .i64 0, .int .i64 most] w (ItPost w b r (readIt s 0 most)) := by
  have hb := h.lt
  have HP : Hid (PA (box2 w 0) b s r) := h.later (box2_below w 0)
  have HE : Hid (readIt s 0 most = (⟨0, val 0 (s.out 1) % 256, ⟨#[]⟩⟩, s.on 1)) := by unfold Hid readIt; simp
  clear h
  go_enter Try.func22, Try.ntmps22
  go_wp2_with fail
  refine (paByte _ b s r HP.out).mono ?_
  rintro x w1 ⟨rfl, hp1, hg1⟩
  obtain ⟨y0, y1, y2, yf, z0, z1, z2, zf⟩ := box2_at w w1 0 b hb hg1
  have yf0 := yf 0
  have yf1 := yf 1
  have yf2 := yf 2
  have zf1 := zf 1
  have zf2 := zf 2
  have HP1 : Hid (PA w1 b (s.on 1) r) := hp1
  have HG1 : Hid (w.grownBy w1 (some b)) := grow_trans (below_grow (box2_below w 0) (some b)) hg1 (.inl rfl)
  clear hp1 hg1
  go_wp2
  have hfin := fun w2 (k : Below w.heap.size w1 w2) => itEnd HP1.out HG1.out k hb hr
  refine bodyPost_ret (v := .agg #[.int .i64 0, .int .u64 ((val 0 (s.out 1) : Int) % 256), .string ⟨#[]⟩]) (by simp [results, Try.results22, go_sem, y0, y1, y2]) rfl ?_
  rw [HE.out]
  exact ⟨by simp, hfin _ (((((Below.refl _ _).setCell (by simp) _).setCell (by simp) _).setCell (by simp) _).setCell (by simp) _)⟩

set_option maxHeartbeats 1000000 in
theorem item1 (w : World) (b : Nat) (s : Rs) (r : Option Nat) (most : Int) (hm1 : -9223372036854775808 ≤ most) (hm2 : most ≤ 9223372036854775807) (h : PA w b s r) (hr : ∀ q, r = some q → q < w.heap.size) :
    Calls Try.prog 22 #[.pointer (some ⟨b, 0, none⟩), .int .i64 1, .int .i64 most] w (ItPost w b r (readIt s 1 most)) := by
  have hb := h.lt
  have HP : Hid (PA (box2 w 1) b s r) := h.later (box2_below w 1)
  have HE : Hid (readIt s 1 most = (⟨1, s.num.1, ⟨#[]⟩⟩, s.uvOn)) := by unfold Hid readIt; simp
  clear h
  go_enter Try.func22, Try.ntmps22
  go_wp2_with fail
  refine (paUvarint _ b s r HP.out).mono ?_
  rintro x w1 ⟨rfl, hp1, hg1⟩
  obtain ⟨y0, y1, y2, yf, z0, z1, z2, zf⟩ := box2_at w w1 1 b hb hg1
  have yf0 := yf 0
  have yf1 := yf 1
  have yf2 := yf 2
  have zf1 := zf 1
  have zf2 := zf 2
  have HP1 : Hid (PA w1 b (s.uvOn) r) := hp1
  have HG1 : Hid (w.grownBy w1 (some b)) := grow_trans (below_grow (box2_below w 1) (some b)) hg1 (.inl rfl)
  clear hp1 hg1
  go_wp2
  have hfin := fun w2 (k : Below w.heap.size w1 w2) => itEnd HP1.out HG1.out k hb hr
  refine bodyPost_ret (v := .agg #[.int .i64 1, .int .u64 (s.num.1 : Int), .string ⟨#[]⟩]) (by simp [results, Try.results22, go_sem, y0, y1, y2]) rfl ?_
  rw [HE.out]
  exact ⟨rfl, hfin _ (((((Below.refl _ _).setCell (by simp) _).setCell (by simp) _).setCell (by simp) _).setCell (by simp) _)⟩

set_option maxHeartbeats 1000000 in
theorem item2 (w : World) (b : Nat) (s : Rs) (r : Option Nat) (most : Int) (hm1 : -9223372036854775808 ≤ most) (hm2 : most ≤ 9223372036854775807) (h : PA w b s r) (hr : ∀ q, r = some q → q < w.heap.size) :
    Calls Try.prog 22 #[.pointer (some ⟨b, 0, none⟩), .int .i64 2, .int .i64 most] w (ItPost w b r (readIt s 2 most)) := by
  have hb := h.lt
  have HP : Hid (PA (box2 w 2) b s r) := h.later (box2_below w 2)
  have HE : Hid (readIt s 2 most = (⟨2, s.num.1, ⟨#[]⟩⟩, s.uvOn)) := by unfold Hid readIt; simp
  clear h
  go_enter Try.func22, Try.ntmps22
  go_wp2_with fail
  refine (paUvarint _ b s r HP.out).mono ?_
  rintro x w1 ⟨rfl, hp1, hg1⟩
  obtain ⟨y0, y1, y2, yf, z0, z1, z2, zf⟩ := box2_at w w1 2 b hb hg1
  have yf0 := yf 0
  have yf1 := yf 1
  have yf2 := yf 2
  have zf1 := zf 1
  have zf2 := zf 2
  have HP1 : Hid (PA w1 b (s.uvOn) r) := hp1
  have HG1 : Hid (w.grownBy w1 (some b)) := grow_trans (below_grow (box2_below w 2) (some b)) hg1 (.inl rfl)
  clear hp1 hg1
  go_wp2
  have hfin := fun w2 (k : Below w.heap.size w1 w2) => itEnd HP1.out HG1.out k hb hr
  refine bodyPost_ret (v := .agg #[.int .i64 2, .int .u64 (s.num.1 : Int), .string ⟨#[]⟩]) (by simp [results, Try.results22, go_sem, y0, y1, y2]) rfl ?_
  rw [HE.out]
  exact ⟨rfl, hfin _ (((((Below.refl _ _).setCell (by simp) _).setCell (by simp) _).setCell (by simp) _).setCell (by simp) _)⟩

set_option maxHeartbeats 1000000 in
theorem item3 (w : World) (b : Nat) (s : Rs) (r : Option Nat) (most : Int) (hm1 : -9223372036854775808 ≤ most) (hm2 : most ≤ 9223372036854775807) (h : PA w b s r) (hr : ∀ q, r = some q → q < w.heap.size) :
    Calls Try.prog 22 #[.pointer (some ⟨b, 0, none⟩), .int .i64 3, .int .i64 most] w (ItPost w b r (readIt s 3 most)) := by
  have hb := h.lt
  have HP : Hid (PA (box2 w 3) b s r) := h.later (box2_below w 3)
  have HE : Hid (readIt s 3 most = (⟨3, val 0 (s.out 4) % 4294967296, ⟨#[]⟩⟩, s.on 4)) := by unfold Hid readIt; simp
  clear h
  go_enter Try.func22, Try.ntmps22
  go_wp2_with fail
  refine (paU32 _ b s r HP.out).mono ?_
  rintro x w1 ⟨rfl, hp1, hg1⟩
  obtain ⟨y0, y1, y2, yf, z0, z1, z2, zf⟩ := box2_at w w1 3 b hb hg1
  have yf0 := yf 0
  have yf1 := yf 1
  have yf2 := yf 2
  have zf1 := zf 1
  have zf2 := zf 2
  have HP1 : Hid (PA w1 b (s.on 4) r) := hp1
  have HG1 : Hid (w.grownBy w1 (some b)) := grow_trans (below_grow (box2_below w 3) (some b)) hg1 (.inl rfl)
  clear hp1 hg1
  go_wp2
  have hfin := fun w2 (k : Below w.heap.size w1 w2) => itEnd HP1.out HG1.out k hb hr
  refine bodyPost_ret (v := .agg #[.int .i64 3, .int .u64 ((val 0 (s.out 4) : Int) % 4294967296), .string ⟨#[]⟩]) (by simp [results, Try.results22, go_sem, y0, y1, y2]) rfl ?_
  rw [HE.out]
  exact ⟨by simp, hfin _ (((((Below.refl _ _).setCell (by simp) _).setCell (by simp) _).setCell (by simp) _).setCell (by simp) _)⟩

set_option maxHeartbeats 1000000 in
theorem item4 (w : World) (b : Nat) (s : Rs) (r : Option Nat) (most : Int) (hm1 : -9223372036854775808 ≤ most) (hm2 : most ≤ 9223372036854775807) (h : PA w b s r) (hr : ∀ q, r = some q → q < w.heap.size) :
    Calls Try.prog 22 #[.pointer (some ⟨b, 0, none⟩), .int .i64 4, .int .i64 most] w (ItPost w b r (readIt s 4 most)) := by
  have hb := h.lt
  have HP : Hid (PA (box2 w 4) b s r) := h.later (box2_below w 4)
  have HE : Hid (readIt s 4 most = (⟨4, val 0 (s.out 8), ⟨#[]⟩⟩, s.on 8)) := by unfold Hid readIt; simp
  clear h
  go_enter Try.func22, Try.ntmps22
  go_wp2_with fail
  refine (paU64 _ b s r HP.out).mono ?_
  rintro x w1 ⟨rfl, hp1, hg1⟩
  obtain ⟨y0, y1, y2, yf, z0, z1, z2, zf⟩ := box2_at w w1 4 b hb hg1
  have yf0 := yf 0
  have yf1 := yf 1
  have yf2 := yf 2
  have zf1 := zf 1
  have zf2 := zf 2
  have HP1 : Hid (PA w1 b (s.on 8) r) := hp1
  have HG1 : Hid (w.grownBy w1 (some b)) := grow_trans (below_grow (box2_below w 4) (some b)) hg1 (.inl rfl)
  clear hp1 hg1
  go_wp2
  have hfin := fun w2 (k : Below w.heap.size w1 w2) => itEnd HP1.out HG1.out k hb hr
  refine bodyPost_ret (v := .agg #[.int .i64 4, .int .u64 (val 0 (s.out 8) : Int), .string ⟨#[]⟩]) (by simp [results, Try.results22, go_sem, y0, y1, y2]) rfl ?_
  rw [HE.out]
  exact ⟨rfl, hfin _ (((((Below.refl _ _).setCell (by simp) _).setCell (by simp) _).setCell (by simp) _).setCell (by simp) _)⟩

set_option maxHeartbeats 1000000 in
theorem item5 (w : World) (b : Nat) (s : Rs) (r : Option Nat) (most : Int) (hm1 : -9223372036854775808 ≤ most) (hm2 : most ≤ 9223372036854775807) (h : PA w b s r) (hr : ∀ q, r = some q → q < w.heap.size) :
    Calls Try.prog 22 #[.pointer (some ⟨b, 0, none⟩), .int .i64 5, .int .i64 most] w (ItPost w b r (readIt s 5 most)) := by
  have hb := h.lt
  have HP : Hid (PA (box2 w 5) b s r) := h.later (box2_below w 5)
  have HE : Hid (readIt s 5 most = (⟨5, 0, strOf (s.textOut most)⟩, s.textOn most)) := by unfold Hid readIt; simp
  clear h
  go_enter Try.func22, Try.ntmps22
  go_wp2_with fail
  refine (paText _ b s r most hm1 hm2 HP.out).mono ?_
  rintro x w1 ⟨rfl, hp1, hg1⟩
  obtain ⟨y0, y1, y2, yf, z0, z1, z2, zf⟩ := box2_at w w1 5 b hb hg1
  have yf0 := yf 0
  have yf1 := yf 1
  have yf2 := yf 2
  have zf1 := zf 1
  have zf2 := zf 2
  have HP1 : Hid (PA w1 b (s.textOn most) r) := hp1
  have HG1 : Hid (w.grownBy w1 (some b)) := grow_trans (below_grow (box2_below w 5) (some b)) hg1 (.inl rfl)
  clear hp1 hg1
  go_wp2
  have hfin := fun w2 (k : Below w.heap.size w1 w2) => itEnd HP1.out HG1.out k hb hr
  refine bodyPost_ret (v := .agg #[.int .i64 5, .int .u64 0, .string (strOf (s.textOut most))]) (by simp [results, Try.results22, go_sem, y0, y1, y2]) rfl ?_
  rw [HE.out]
  exact ⟨rfl, hfin _ (((((Below.refl _ _).setCell (by simp) _).setCell (by simp) _).setCell (by simp) _).setCell (by simp) _)⟩

/-- Of a kind that there is. -/
theorem itemAny (w : World) (b : Nat) (s : Rs) (r : Option Nat) (k most : Int) (hk : 0 ≤ k ∧ k ≤ 5) (hm1 : -9223372036854775808 ≤ most) (hm2 : most ≤ 9223372036854775807) (h : PA w b s r) (hr : ∀ q, r = some q → q < w.heap.size) :
    Calls Try.prog 22 #[.pointer (some ⟨b, 0, none⟩), .int .i64 k, .int .i64 most] w (ItPost w b r (readIt s k most)) := by
  have : k = 0 ∨ k = 1 ∨ k = 2 ∨ k = 3 ∨ k = 4 ∨ k = 5 := by omega
  rcases this with rfl | rfl | rfl | rfl | rfl | rfl
  · exact item0 w b s r most hm1 hm2 h hr
  · exact item1 w b s r most hm1 hm2 h hr
  · exact item2 w b s r most hm1 hm2 h hr
  · exact item3 w b s r most hm1 hm2 h hr
  · exact item4 w b s r most hm1 hm2 h hr
  · exact item5 w b s r most hm1 hm2 h hr
end Go.Proofs.Ytjefbcphefckiac
