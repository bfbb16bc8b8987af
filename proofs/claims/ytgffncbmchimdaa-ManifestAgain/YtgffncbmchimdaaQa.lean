import Derived.Test.YtgffncbmchimdaaShG
import Derived.Test.YtgffncbmchimdaaRm
import Derived.Test.YtgffncbmchimdaaRows
import Derived.ProofKit
import Derived.Test.YtgffncbmchimdaaSfV
import Derived.OpenShut
import Derived.SizedLaws
import Derived.Deep.Slices
import Derived.Sort.Walk0
import Derived.Deep.RegionLaw
import Derived.Deep.RegionWith
/-! A changing operation, as a step asks for it. -/
namespace Go.Proofs.Ytgffncbmchimdaa
open Go.RowKit Go.Maps Plain
set_option linter.unusedVariables false
set_option linter.unusedSimpArgs false

/-- What a step's change does. -/
def chK (k : Dk) (kd : Int) (nm to : ByteArray) (n : Int) (l : List Nat) (G : Nat) : Int × Dk :=
  if kd = 1 then createK k nm G else if kd = 2 then appendK k nm l else if kd = 3 then truncK k nm n else if kd = 4 then syncK k nm else if kd = 5 then syncDirK k else if kd = 6 then renameK k nm to else removeK k nm
abbrev ChPost (W : World) (d : Nat) (f : Nat → Int × Dk) (w1 : World) : Ending → World → Prop := fun e w2 => ∃ G, w1.heap.size ≤ G ∧ e = .returned (.tuple #[.int .i64 (f G).1, .bool true]) ∧ Dsk W d (f G).2 w2
theorem truncD {W w1 : World} {d n : Nat} {k : Dk} {s : ByteArray} {m : Int} (h : Dsk W d k w1) (hs : s.size ≤ maxLen) (hm : I64 m) (hk : k.Dok n) (hu : k.Uok) (hn : n ≤ 4398046511103) : Calls Try.prog 26 #[.pointer (some ⟨d, 0, none⟩), .string s, .int .i64 m] w1 (DPost W d (truncK k s m)) := by
  obtain ⟨h1, S, h2, h3⟩ := h
  refine (truncOf d k n S s hs m hm.1 hm.2 w1 h2 hk.ok hu hn).mono ?_
  rintro e w2 hp
  exact Dsk.op h1 h3 hp
theorem removeD {W w1 : World} {d n : Nat} {k : Dk} {s : ByteArray} (h : Dsk W d k w1) (hs : s.size ≤ maxLen) (hk : k.Dok n) (hu : k.Uok) (hn : n ≤ 4398046511103) : Calls Try.prog 28 #[.pointer (some ⟨d, 0, none⟩), .string s] w1 (DPost W d (removeK k s)) := by
  obtain ⟨h1, S, h2, h3⟩ := h
  refine (removeOf d k n S s hs w1 h2 hk hu hn).mono ?_
  rintro e w2 hp
  exact Dsk.op h1 h3 hp

set_option maxHeartbeats 1000000 in
set_option maxRecDepth 1000000 in
theorem changeCreate {W w : World} {d n : Nat} {k : Dk} (nm to : ByteArray) (at' m : Int) (vb vp : Value) (h : Dsk W d k w) (hs : nm.size ≤ maxLen) (hk : k.Dok n) (hn : n ≤ 4398046511103) :
    Calls Try.prog 6 #[.pointer (some ⟨d, 0, none⟩), .agg #[.int .i64 1, .string nm, .string to, .int .i64 at', .int .i64 m, vb, vp]] w (ChPost W d (createK k nm) w) := by
  have HC : Hid (∀ w1, Below w.heap.size w w1 → Calls Try.prog 21 #[.pointer (some ⟨d, 0, none⟩), .string nm] w1 fun e w2 => ∃ G, w1.heap.size ≤ G ∧ DPost W d (createK k nm G) e w2) := fun w1 hb => createD (h.later hb) hs hk hn
  clear h hk
  go_enter Try.func6, Try.ntmps6
  go_wp2_with fail
  refine (HC.out _ ((Below.refl _ _).alloc (Nat.le_refl _) _)).mono ?_
  rintro e w1 ⟨G, hG, rfl, h1⟩
  have HP : Hid (ChPost W d (createK k nm) w (.returned (.tuple #[.int .i64 (createK k nm G).1, .bool true])) w1) := ⟨G, by simp at hG; omega, rfl, h1⟩
  clear h1
  generalize (createK k nm G).1 = z at *
  go_wp2
  go_ret2
  exact HP.out

set_option maxHeartbeats 1000000 in
set_option maxRecDepth 1000000 in
theorem changeTrunc {W w : World} {d n : Nat} {k : Dk} (nm to : ByteArray) (at' m : Int) (vb vp : Value) (h : Dsk W d k w) (hs : nm.size ≤ maxLen) (hm : I64 m) (hk : k.Dok n) (hu : k.Uok) (hn : n ≤ 4398046511103) :
    Calls Try.prog 6 #[.pointer (some ⟨d, 0, none⟩), .agg #[.int .i64 3, .string nm, .string to, .int .i64 at', .int .i64 m, vb, vp]] w (ChPost W d (fun _ => truncK k nm m) w) := by
  have HC : Hid (∀ w1, Below w.heap.size w w1 → Calls Try.prog 26 #[.pointer (some ⟨d, 0, none⟩), .string nm, .int .i64 m] w1 (DPost W d (truncK k nm m))) := fun w1 hb => truncD (h.later hb) hs hm hk hu hn
  clear h hk hu
  go_enter Try.func6, Try.ntmps6
  go_wp2_with fail
  refine (HC.out _ ((Below.refl _ _).alloc (Nat.le_refl _) _)).mono ?_
  rintro e w1 ⟨rfl, h1⟩
  have HP : Hid (ChPost W d (fun _ => truncK k nm m) w (.returned (.tuple #[.int .i64 (truncK k nm m).1, .bool true])) w1) := ⟨_, Nat.le_refl _, rfl, h1⟩
  clear h1
  generalize (truncK k nm m).1 = z at *
  go_wp2
  go_ret2
  exact HP.out

set_option maxHeartbeats 1000000 in
set_option maxRecDepth 1000000 in
theorem changeSync {W w : World} {d n : Nat} {k : Dk} (nm to : ByteArray) (at' m : Int) (vb vp : Value) (h : Dsk W d k w) (hs : nm.size ≤ maxLen) (hk : k.Dok n) (hn : n ≤ 4398046511103) :
    Calls Try.prog 6 #[.pointer (some ⟨d, 0, none⟩), .agg #[.int .i64 4, .string nm, .string to, .int .i64 at', .int .i64 m, vb, vp]] w (ChPost W d (fun _ => syncK k nm) w) := by
  have HC : Hid (∀ w1, Below w.heap.size w w1 → Calls Try.prog 8 #[.pointer (some ⟨d, 0, none⟩), .string nm] w1 (DPost W d (syncK k nm))) := fun w1 hb => syncD (h.later hb) hs hk hn
  clear h hk
  go_enter Try.func6, Try.ntmps6
  go_wp2_with fail
  refine (HC.out _ ((Below.refl _ _).alloc (Nat.le_refl _) _)).mono ?_
  rintro e w1 ⟨rfl, h1⟩
  have HP : Hid (ChPost W d (fun _ => syncK k nm) w (.returned (.tuple #[.int .i64 (syncK k nm).1, .bool true])) w1) := ⟨_, Nat.le_refl _, rfl, h1⟩
  clear h1
  generalize (syncK k nm).1 = z at *
  go_wp2
  go_ret2
  exact HP.out

set_option maxHeartbeats 1000000 in
set_option maxRecDepth 1000000 in
theorem changeSyncDir {W w : World} {d n : Nat} {k : Dk} (nm to : ByteArray) (at' m : Int) (vb vp : Value) (h : Dsk W d k w) (hk : k.Dok n) (hn : n ≤ 4398046511103) :
    Calls Try.prog 6 #[.pointer (some ⟨d, 0, none⟩), .agg #[.int .i64 5, .string nm, .string to, .int .i64 at', .int .i64 m, vb, vp]] w (ChPost W d (fun _ => syncDirK k) w) := by
  have HC : Hid (∀ w1, Below w.heap.size w w1 → Calls Try.prog 9 #[.pointer (some ⟨d, 0, none⟩)] w1 (DPost W d (syncDirK k))) := fun w1 hb => syncDirD (h.later hb) hk hn
  clear h hk
  go_enter Try.func6, Try.ntmps6
  go_wp2_with fail
  refine (HC.out _ ((Below.refl _ _).alloc (Nat.le_refl _) _)).mono ?_
  rintro e w1 ⟨rfl, h1⟩
  have HP : Hid (ChPost W d (fun _ => syncDirK k) w (.returned (.tuple #[.int .i64 (syncDirK k).1, .bool true])) w1) := ⟨_, Nat.le_refl _, rfl, h1⟩
  clear h1
  generalize (syncDirK k).1 = z at *
  go_wp2
  go_ret2
  exact HP.out

set_option maxHeartbeats 1000000 in
set_option maxRecDepth 1000000 in
theorem changeRename {W w : World} {d n : Nat} {k : Dk} (nm to : ByteArray) (at' m : Int) (vb vp : Value) (h : Dsk W d k w) (hs : nm.size ≤ maxLen) (ht : to.size ≤ maxLen) (hk : k.Dok n) (hu : k.Uok) (hn : n ≤ 4398046511103) :
    Calls Try.prog 6 #[.pointer (some ⟨d, 0, none⟩), .agg #[.int .i64 6, .string nm, .string to, .int .i64 at', .int .i64 m, vb, vp]] w (ChPost W d (fun _ => renameK k nm to) w) := by
  have HC : Hid (∀ w1, Below w.heap.size w w1 → Calls Try.prog 27 #[.pointer (some ⟨d, 0, none⟩), .string nm, .string to] w1 (DPost W d (renameK k nm to))) := fun w1 hb => renameD (h.later hb) hs ht hk hu hn
  clear h hk hu
  go_enter Try.func6, Try.ntmps6
  go_wp2_with fail
  refine (HC.out _ ((Below.refl _ _).alloc (Nat.le_refl _) _)).mono ?_
  rintro e w1 ⟨rfl, h1⟩
  have HP : Hid (ChPost W d (fun _ => renameK k nm to) w (.returned (.tuple #[.int .i64 (renameK k nm to).1, .bool true])) w1) := ⟨_, Nat.le_refl _, rfl, h1⟩
  clear h1
  generalize (renameK k nm to).1 = z at *
  go_wp2
  go_ret2
  exact HP.out

set_option maxHeartbeats 1000000 in
set_option maxRecDepth 1000000 in
theorem changeRemove {W w : World} {d n : Nat} {k : Dk} (nm to : ByteArray) (at' m : Int) (vb vp : Value) (h : Dsk W d k w) (hs : nm.size ≤ maxLen) (hk : k.Dok n) (hu : k.Uok) (hn : n ≤ 4398046511103) :
    Calls Try.prog 6 #[.pointer (some ⟨d, 0, none⟩), .agg #[.int .i64 7, .string nm, .string to, .int .i64 at', .int .i64 m, vb, vp]] w (ChPost W d (fun _ => removeK k nm) w) := by
  have HC : Hid (∀ w1, Below w.heap.size w w1 → Calls Try.prog 28 #[.pointer (some ⟨d, 0, none⟩), .string nm] w1 (DPost W d (removeK k nm))) := fun w1 hb => removeD (h.later hb) hs hk hu hn
  clear h hk hu
  go_enter Try.func6, Try.ntmps6
  go_wp2_with fail
  refine (HC.out _ ((Below.refl _ _).alloc (Nat.le_refl _) _)).mono ?_
  rintro e w1 ⟨rfl, h1⟩
  have HP : Hid (ChPost W d (fun _ => removeK k nm) w (.returned (.tuple #[.int .i64 (removeK k nm).1, .bool true])) w1) := ⟨_, Nat.le_refl _, rfl, h1⟩
  clear h1
  generalize (removeK k nm).1 = z at *
  go_wp2
  go_ret2
  exact HP.out
end Go.Proofs.Ytgffncbmchimdaa

/-! The law on Rename: its walk. -/
namespace Go.Proofs.Ytgffncbmchimdaa
open Go.RowKit Go.Maps Plain
set_option linter.unusedVariables false
set_option linter.unusedSimpArgs false

theorem op1 {W w1 : World} {d : Nat} (h : Dsk W d s0 w1) : Calls Try.prog 21 #[.pointer (some ⟨d, 0, none⟩), .string ⟨#[110, 97, 109, 101]⟩] w1 fun e w2 => ∃ G, e = .returned (.int .i64 0) ∧ Dsk W d (s1 G) w2 := by
  refine (createD (s := nmA) h szA (fresh_dok _) (by omega)).mono ?_
  rintro e w2 ⟨G, _, rfl, h2⟩
  rw [t1] at h2 ⊢
  exact ⟨G, rfl, h2⟩
theorem op2 {W w1 : World} {d G : Nat} {v : Value} {o : List Nat} (h : Dsk W d (s1 G) w1) (ho : o.length ≤ 1000) (hb : BytesAt W v o) : Calls Try.prog 22 #[.pointer (some ⟨d, 0, none⟩), .string ⟨#[110, 97, 109, 101]⟩, v] w1 fun e w2 => e = .returned (.int .i64 0) ∧ Dsk W d (s2 G o) w2 := by
  have := appendD (s := nmA) h szA hb (d1 G) (u1 G) (by omega)
  rw [t2 G o ho] at this
  exact this
theorem op3 {W w1 : World} {d G : Nat} {o : List Nat} (h : Dsk W d (s2 G o) w1) (ho : o.length ≤ 1000) : Calls Try.prog 8 #[.pointer (some ⟨d, 0, none⟩), .string ⟨#[110, 97, 109, 101]⟩] w1 fun e w2 => e = .returned (.int .i64 0) ∧ Dsk W d (s3 G o) w2 := by
  have := syncD (s := nmA) h szA (d2 G o ho) (by omega)
  rw [t3] at this
  exact this
theorem op4 {W w1 : World} {d G : Nat} {o : List Nat} (h : Dsk W d (s3 G o) w1) (ho : o.length ≤ 1000) : Calls Try.prog 21 #[.pointer (some ⟨d, 0, none⟩), .string ⟨#[110, 97, 109, 101, 46, 116, 109, 112]⟩] w1 fun e w2 => ∃ H, G ≠ H ∧ e = .returned (.int .i64 0) ∧ Dsk W d (s4 G o H) w2 := by
  have hG := h.liveLt (G := G) (.inr rfl)
  refine (createD (s := nmT) h szT (d3 G o ho) (by omega)).mono ?_
  rintro e w2 ⟨H, hH, rfl, h2⟩
  rw [t4] at h2 ⊢
  exact ⟨H, by omega, rfl, h2⟩
theorem op5 {W w1 : World} {d G H : Nat} {v : Value} {o f : List Nat} (h : Dsk W d (s4 G o H) w1) (ho : o.length ≤ 1000) (hf : f.length ≤ 1000) (hne : G ≠ H) (hb : BytesAt W v f) : Calls Try.prog 22 #[.pointer (some ⟨d, 0, none⟩), .string ⟨#[110, 97, 109, 101, 46, 116, 109, 112]⟩, v] w1 fun e w2 => e = .returned (.int .i64 0) ∧ Dsk W d (s5 G o H f) w2 := by
  have := appendD (s := nmT) h szT hb (d4 G H o ho) (u4 G H o ho hne) (by omega)
  rw [t5 G H o f ho hf] at this
  exact this
theorem op6 {W w1 : World} {d G H : Nat} {o f : List Nat} (h : Dsk W d (s5 G o H f) w1) (ho : o.length ≤ 1000) (hf : f.length ≤ 1000) (hne : G ≠ H) : Calls Try.prog 8 #[.pointer (some ⟨d, 0, none⟩), .string ⟨#[110, 97, 109, 101, 46, 116, 109, 112]⟩] w1 fun e w2 => e = .returned (.int .i64 0) ∧ Dsk W d (s6 G o H f) w2 := by
  have := syncD (s := nmT) h szT (d5 G H o f ho hf hne) (by omega)
  rw [t6] at this
  exact this
theorem op7 {W w1 : World} {d G H : Nat} {o f : List Nat} (h : Dsk W d (s6 G o H f) w1) (ho : o.length ≤ 1000) (hf : f.length ≤ 1000) (hne : G ≠ H) : Calls Try.prog 9 #[.pointer (some ⟨d, 0, none⟩)] w1 fun e w2 => e = .returned (.int .i64 0) ∧ Dsk W d (s7 G o H f) w2 := by
  have := syncDirD h (d6 G H o f ho hf hne) (by omega)
  rw [t7] at this
  exact this
theorem op8 {W w1 : World} {d G H : Nat} {o f : List Nat} (h : Dsk W d (s7 G o H f) w1) (ho : o.length ≤ 1000) (hf : f.length ≤ 1000) (hne : G ≠ H) : Calls Try.prog 27 #[.pointer (some ⟨d, 0, none⟩), .string ⟨#[110, 97, 109, 101, 46, 116, 109, 112]⟩, .string ⟨#[110, 97, 109, 101]⟩] w1 fun e w2 => e = .returned (.int .i64 0) ∧ Dsk W d (s8 G o H f) w2 := by
  have := renameD (s := nmT) (t := nmA) h szT szA (d7 G H o f ho hf hne) (u7 G H o f ho hf hne) (by omega)
  rw [t8 G H o f hne] at this
  exact this
theorem op9 {W w1 : World} {d G H : Nat} {o f : List Nat} (h : Dsk W d (s8 G o H f) w1) (ho : o.length ≤ 1000) (hf : f.length ≤ 1000) (hne : G ≠ H) : Calls Try.prog 9 #[.pointer (some ⟨d, 0, none⟩)] w1 fun e w2 => e = .returned (.int .i64 0) ∧ Dsk W d (s9 G o H f) w2 := by
  have := syncDirD h (d8 G H o f ho hf hne) (by omega)
  rw [t9] at this
  exact this
theorem op10 {W w1 : World} {d G H : Nat} {o f : List Nat} (h : Dsk W d (s9 G o H f) w1) (ho : o.length ≤ 1000) (hf : f.length ≤ 1000) (hne : G ≠ H) : Calls Try.prog 23 #[.pointer (some ⟨d, 0, none⟩), .string ⟨#[110, 97, 109, 101]⟩, .int .i64 0, .int .i64 ((f.length : Int) + 1)] w1 fun e w2 => ∃ a l c, e = .returned (.tuple #[.slice a l c, .int .i64 0]) ∧ BytesAt w2 (.slice a l c) f ∧ Below w1.heap.size w1 w2 := by
  refine (readD (s := nmA) h szA (d9 G H o f ho hf hne) 0 (f.length + 1) (by omega) rfl (Nat.zero_le _)).mono ?_
  rintro e w2 ⟨a, l, c, r, rfl, hw, hb⟩
  have e1 : rdB (s9 G o H f) nmA 0 (f.length + 1) = f := by
    show ((F6 G o H f H).seen.drop 0).take (f.length + 1) = f
    rw [F6H, List.drop_zero, List.take_of_length_le (by simp)]
  rw [e1] at hw
  exact ⟨a, l, c, rfl, hw.bytes, hb⟩

/-- What an image of one file, or of two, looks like. -/
structure Pic (w : World) (a : Option Addr) (l c : Nat) (g : Nat) : Prop where
  at' : a = some ⟨g, 0, none⟩
  cap : l ≤ c
  lim : c ≤ 2 ^ 63 - 1
structure Ent (w : World) (g j : Nat) (k : Nm) (b : List Nat) (a : Option Addr) (n c : Nat) : Prop where
  name : w.cell? ⟨g, j * 2, none⟩ = some (.string (str k))
  data : w.cell? ⟨g, j * 2 + 1, none⟩ = some (.slice a n c)
  row : BytesAt w (.slice a n c) b
theorem Ent.later {w w' : World} {g j n c : Nat} {k : Nm} {b : List Nat} {a : Option Addr} (h : Ent w g j k b a n c) (hb : Below w.heap.size w w') : Ent w' g j k b a n c :=
  ⟨by rw [hb.cell (cell_lt h.name)]; exact h.name, by rw [hb.cell (cell_lt h.data)]; exact h.data, h.row.later hb⟩
theorem ImgAt.ent {w : World} {a : Option Addr} {l c base : Nat} {im : List (Nm × List Nat)} (h : ImgAt w (.slice a l c) im base) (h0 : 0 < im.length) : l = im.length ∧ ∃ g, Pic w a l c g ∧ ∀ j k b, im[j]? = some (k, b) → ∃ a' n' c', Ent w g j k b a' n' c' := by
  obtain ⟨ts, r, blk, hm⟩ := h
  have hl := hm.len
  rcases hm.row with ⟨_, rfl, _⟩ | ⟨g, cap, hr, e, hg, h1, h2, h3, h4, h5⟩
  · simp at hl; omega
  · simp only [Value.slice.injEq] at e
    obtain ⟨rfl, rfl, rfl⟩ := e
    unfold maxLen at h2
    refine ⟨hl, g, ⟨rfl, h1, by omega⟩, fun j k b hj => ?_⟩
    have hjl := (List.getElem?_eq_some_iff.mp hj).1
    obtain ⟨dv, e1, ho⟩ := hm.one j (k, b) hj
    have hrow := hm.row
    rw [hr] at hrow
    obtain ⟨c0, c1⟩ := hrow.at (j := j) (by omega)
    have e2 : ts.getD j Fi.none = ⟨str k, dv⟩ := by simp [List.getD_eq_getElem?_getD, e1]
    rw [e2] at c0 c1
    obtain ⟨a', n', c', rfl⟩ := isSliceO ho
    exact ⟨a', n', c', c0, c1, ho.bytes⟩
theorem op8c {W w1 : World} {d G H : Nat} {o f : List Nat} {a : Option Addr} {m c : Nat} {ps : List Int} (h : Dsk W d (s8 G o H f) w1) (ho : o.length ≤ 1000) (hf : f.length ≤ 1000) (hne : G ≠ H) (hp : PicksAt W (.slice a m c) ps) (hpo : PicksOff W.heap.size (.slice a m c)) :
    Calls Try.prog 12 #[.pointer (some ⟨d, 0, none⟩), .slice a m c] w1 fun e w2 => ∃ l c g, e = .returned (.slice (some ⟨g, 0, none⟩) l c) ∧ l ≤ c ∧ c ≤ 2 ^ 63 - 1 ∧ Dsk W d (s8 G o H f) w2 ∧
      ((l = 2 ∧ ∃ a1 n1 c1 a2 n2 c2, Ent w2 g 0 kA o a1 n1 c1 ∧ Ent w2 g 1 kT f a2 n2 c2) ∨ (l = 1 ∧ ∃ a1 n1 c1, Ent w2 g 0 kA f a1 n1 c1)) := by
  refine (crashD h (d8 G H o f ho hf hne) hp hpo ?_ ?_).mono ?_
  · intro p hp
    rcases crL8 G H o f ps with e | e <;> rw [e] at hp
    · simp only [List.mem_cons, List.not_mem_nil, or_false] at hp
      rcases hp with rfl | rfl
      · exact .inl (.inr rfl)
      · exact .inr rfl
    · simp only [List.mem_cons, List.not_mem_nil, or_false] at hp
      subst hp
      exact .inr rfl
  · rcases crL8 G H o f ps with e | e <;> rw [e] <;> simp
  · rintro e w2 ⟨a', l', c', rfl, hi, hd⟩
    rcases cr8 G H o f hne ps with e | e <;> rw [e] at hi
    · obtain ⟨hl, g, ⟨rfl, q1, q2⟩, he⟩ := hi.ent (by simp)
      obtain ⟨a1, n1, c1, h1⟩ := he 0 _ _ rfl
      obtain ⟨a2, n2, c2, h2⟩ := he 1 _ _ rfl
      exact ⟨l', c', g, rfl, q1, q2, hd, .inl ⟨hl, a1, n1, c1, a2, n2, c2, h1, h2⟩⟩
    · obtain ⟨hl, g, ⟨rfl, q1, q2⟩, he⟩ := hi.ent (by simp)
      obtain ⟨a1, n1, c1, h1⟩ := he 0 _ _ rfl
      exact ⟨l', c', g, rfl, q1, q2, hd, .inr ⟨hl, a1, n1, c1, h1⟩⟩
theorem op9c {W w1 : World} {d G H : Nat} {o f : List Nat} {a : Option Addr} {m c : Nat} {ps : List Int} (h : Dsk W d (s9 G o H f) w1) (ho : o.length ≤ 1000) (hf : f.length ≤ 1000) (hne : G ≠ H) (hp : PicksAt W (.slice a m c) ps) (hpo : PicksOff W.heap.size (.slice a m c)) :
    Calls Try.prog 12 #[.pointer (some ⟨d, 0, none⟩), .slice a m c] w1 fun e w2 => ∃ c g a1 n1 c1, e = .returned (.slice (some ⟨g, 0, none⟩) 1 c) ∧ 1 ≤ c ∧ c ≤ 2 ^ 63 - 1 ∧ Dsk W d (s9 G o H f) w2 ∧ Ent w2 g 0 kA f a1 n1 c1 := by
  refine (crashD h (d9 G H o f ho hf hne) hp hpo ?_ ?_).mono ?_
  · intro p hp
    rw [crL9] at hp
    simp only [List.mem_cons, List.not_mem_nil, or_false] at hp
    subst hp
    exact .inr rfl
  · rw [crL9]; simp
  · rintro e w2 ⟨a', l', c', rfl, hi, hd⟩
    rw [cr9] at hi
    obtain ⟨hl, g, ⟨rfl, q1, q2⟩, he⟩ := hi.ent (by simp)
    obtain ⟨a1, n1, c1, h1⟩ := he 0 _ _ rfl
    have hl' : l' = 1 := hl
    subst hl'
    exact ⟨c', g, a1, n1, c1, rfl, q1, q2, hd, h1⟩
theorem below_drewN' (w : World) (n : Nat) : Below w.heap.size w (w.drewN n) := ⟨rfl, rfl, rfl, Nat.le_refl _, fun _ _ => rfl⟩
theorem sameB (va vb : Value) (la lb : List Nat) (w : World) (ha : BytesAt w va la) (hb : BytesAt w vb lb) : Calls Try.prog 38 #[va, vb] w fun e w' => e = .returned (.bool (decide (la = lb))) ∧ Below w.heap.size w w' := by
  refine (sameBytes va vb la lb w ha hb).mono ?_
  rintro e w' ⟨rfl, n, rfl⟩
  exact ⟨rfl, below_drewN' w n⟩
end Go.Proofs.Ytgffncbmchimdaa

/-! A step that appends; any changing step. -/
namespace Go.Proofs.Ytgffncbmchimdaa
open Go.RowKit Go.Maps Plain
set_option linter.unusedVariables false
set_option linter.unusedSimpArgs false

theorem Own.apart {w w' : World} {S : Nat → Prop} {v : Value} {l : List Nat} {g : Nat} (h : Own w v l (some g)) (hc : Chg S w w') (hg : ¬ S g) : Own w' v l (some g) :=
  h.of_block hc.size (fun g' e => by simp at e; subst e; exact hc.block _ h.lt hg)
theorem BytesAt.head {w : World} {g cap n : Nat} {l m : List Nat} (h : Own w (.slice (some ⟨g, 0, none⟩) n cap) (l ++ m) (some g)) : BytesAt w (.slice (some ⟨g, 0, none⟩) l.length cap) l := by
  have := h.bytes.take l.length (by simp)
  rwa [List.take_left'] at this
  rfl

set_option maxHeartbeats 4000000 in
set_option maxRecDepth 1000000 in
theorem changeAppend {W w : World} {d n : Nat} {k : Dk} (nm to : ByteArray) (at' m : Int) (vb vp : Value) (l : List Nat) (h : Dsk W d k w) (hs : nm.size ≤ maxLen) (hb : BytesAt w vb l) (hw : ∀ w', Below W.heap.size W w' → BytesAt w' vb l) (hl : l.length ≤ 140737488351232) (hk : k.Dok n) (hu : k.Uok) (hn : n ≤ 4398046511103) :
    Calls Try.prog 6 #[.pointer (some ⟨d, 0, none⟩), .agg #[.int .i64 2, .string nm, .string to, .int .i64 at', .int .i64 m, vb, vp]] w (ChPost W d (fun _ => appendK k nm l) w) := by
  obtain ⟨h1, S, h2, h3⟩ := h
  have hS := h2.rng
  have HB : Hid (BytesAt w vb l) := hb
  have HWW : Hid (∀ w', Below W.heap.size W w' → BytesAt w' vb l) := hw
  have H0 : Hid (Below W.heap.size W w ∧ DiskAt w d k S ∧ (∀ x, S x → W.heap.size ≤ x) ∧ ∀ x, S x → x < w.heap.size) := ⟨h1, h2, h3, hS⟩
  have HAP : Hid (∀ (w1 : World) (g cap : Nat), Below w.heap.size w w1 → w.heap.size ≤ g → Own w1 (.slice (some ⟨g, 0, none⟩) (l.length + 8) cap) (l ++ marks 8) (some g) → Calls Try.prog 22 #[.pointer (some ⟨d, 0, none⟩), .string nm, .slice (some ⟨g, 0, none⟩) l.length cap] w1 (OpPost d (appendK k nm l) S w1)) := fun w1 g cap hb1 hg ho =>
    appendOf d k n S nm hs _ l w1 (h2.later hb1) hk.ok hu hn (fun w' hc => BytesAt.head (ho.apart hc (fun e => by have := hS g e; omega)))
  have hW0 := h1.size
  obtain ⟨R, hR⟩ : ∃ R, appendK k nm l = R := ⟨_, rfl⟩
  rw [hR] at HAP
  rw [show (fun _ : Nat => appendK k nm l) = fun _ => R by rw [hR]]
  clear h1 h2 h3 hS hb hw hk hu hR
  go_enter Try.func6, Try.ntmps6
  go_wp2_with fail
  refine (roomy _ l _ (HB.out.later ((Below.refl _ _).alloc (Nat.le_refl _) _)) hl).mono ?_
  rintro e w1 ⟨g, cap, rfl, ho, hg, hb1⟩
  have HO : Hid (Own w1 (.slice (some ⟨g, 0, none⟩) (l.length + 8) cap) (l ++ marks 8) (some g)) := ho
  have hgw : w.heap.size + 1 ≤ g := by simpa using hg
  have HB1 : Hid (Below (w.heap.size + 1) (w.alloc (.cells #[.int .i64 2, .string nm, .string to, .int .i64 at', .int .i64 m, vb, vp] 29)) w1) := by unfold Hid; simpa using hb1
  have HBL : Hid (Below w.heap.size w w1) := ((Below.refl _ _).alloc (Nat.le_refl _) _).trans (HB1.out.mono (by omega))
  clear ho hg hb1
  have c1 : w1.cell? ⟨w.heap.size, 1, none⟩ = some (.string nm) := by
    rw [HB1.out.cell (p := ⟨_, _, none⟩) (by simp)]; simp
  have c5 : w1.cell? ⟨w.heap.size, 5, none⟩ = some vb := by
    rw [HB1.out.cell (p := ⟨_, _, none⟩) (by simp)]; simp
  have hs1 := HB1.out.size
  go_wp2_with fail
  refine (HAP.out w1 g cap HBL.out (by omega) HO.out).mono ?_
  rintro e w2 ⟨rfl, hd2, hc2⟩
  have hs2 := hc2.size
  have hglt : g < w1.heap.size := HO.out.lt
  have hnS : ∀ x, w.heap.size ≤ x → ¬ S x := fun x hx e => by have := H0.out.2.2.2 x e; omega
  have HD2 : Hid (DiskAt w2 d R.2 (Ext S w1 w2) ∧ (∀ x, Ext S w1 w2 x → W.heap.size ≤ x) ∧ ¬ Ext S w1 w2 g) := by
    refine ⟨hd2, fun x hx => ?_, fun hx => ?_⟩
    · rcases hx with hx | hx
      · exact H0.out.2.2.1 x hx
      · simp at hs1; omega
    · rcases hx with hx | hx
      · exact hnS g (by omega) hx
      · omega
  have HBB : Hid (Below W.heap.size W w2) := (H0.out.1.trans (HBL.out.mono hW0)).trans (hc2.below (by simp at hs1; omega) H0.out.2.2.1)
  have d5 : w2.cell? ⟨w.heap.size, 5, none⟩ = some vb := by
    rw [World.cell?_of_block (w := w1) (a := ⟨w.heap.size, 5, none⟩) (hc2.block w.heap.size (by simp at hs1; omega) (hnS _ (Nat.le_refl _)))]; exact c5
  have HO2 : Hid (Own w2 (.slice (some ⟨g, 0, none⟩) (l.length + 8) cap) (l ++ marks 8) (some g)) := HO.out.apart hc2 (hnS g (by omega))
  clear c1 c5 HO HB1 hs1 hd2 hc2 hnS HAP
  go_wp2_with fail
  refine (kept g cap l l vb w2 (HWW.out w2 HBB.out) rfl HO2.out).mono ?_
  rintro e w3 ⟨rfl, q, rfl⟩
  obtain ⟨hby, hr⟩ := HO2.out
  rcases hr with ⟨e, _⟩ | ⟨g', cap', e, e2, hg, h1, h2, h3, h4, h5⟩
  · simp at e
  simp at e; subst e
  simp only [Value.slice.injEq, true_and] at e2
  obtain ⟨-, rfl⟩ := e2
  have hc8 : l.length + 8 ≤ cap := by simp [marks_len] at h1; omega
  have H3 : Hid (∀ j, j < cap → w2.frozen? ⟨g, j, none⟩ = false) := h3
  have H4 : Hid (∀ j, j < cap → (w2.cell? ⟨g, j, none⟩).isSome = true) := h4
  unfold maxLen at h2
  clear hby h1 h3 h4 h5 HO2 hg d5
  simp only [decide_true]
  go_wp2
  go_loopw [9] (fun i wr => ∃ kk : Nat, kk ≤ l.length ∧ i = .int .i64 kk ∧ Below W.heap.size W wr ∧ DiskAt wr d R.2 (Ext S w1 w2) ∧ (∀ j, wr.frozen? ⟨g, j, none⟩ = w2.frozen? ⟨g, j, none⟩) ∧ (∀ j, j < cap → (wr.cell? ⟨g, j, none⟩).isSome = true)) (fun i _ => l.length - (intOf i).toNat)
  case atStart => exact ⟨0, by omega, rfl, HBB.out.trans ((below_drewN' w2 q).mono HBB.out.size), HD2.out.1.later (below_drewN' w2 q), fun _ => rfl, H4.out⟩
  case round =>
    obtain ⟨kk, hkk, rfl, hbl, hdd, hfr, hsome⟩ := hrel
    by_cases hlt : kk < l.length
    · obtain ⟨old, hold⟩ := Option.isSome_iff_exists.mp (hsome kk (by omega))
      have hfz : wr.frozen? ⟨g, kk, none⟩ = false := by rw [hfr]; exact H3.out kk (by omega)
      have HREL : Hid (Below W.heap.size W (wr.setCell ⟨g, kk, none⟩ (.int .u8 77)) ∧ DiskAt (wr.setCell ⟨g, kk, none⟩ (.int .u8 77)) d R.2 (Ext S w1 w2) ∧ (∀ j, (wr.setCell ⟨g, kk, none⟩ (.int .u8 77)).frozen? ⟨g, j, none⟩ = w2.frozen? ⟨g, j, none⟩) ∧
          (∀ j, j < cap → ((wr.setCell ⟨g, kk, none⟩ (.int .u8 77)).cell? ⟨g, j, none⟩).isSome = true)) := by
        refine ⟨hbl.setCell (by simp; omega) _, hdd.frame (by simp) (fun x hx => (grow_set wr g kk (.int .u8 77)).block x (hdd.rng x hx) (fun e => by simp at e; subst e; exact HD2.out.2.2 hx)), fun j => ?_, fun j hj => ?_⟩
        · rw [← hfr j]; exact World.frozen?_setCells g [.int .u8 77] kk wr _
        · exact isSome_setCells g [.int .u8 77] kk wr _ (hsome j hj)
      clear hbl hfr hsome hdd
      go_wp2
      go_roundw
      case rel => exact ⟨kk + 1, by omega, by go_num, HREL.out⟩
      case measure => simp [intOf]; omega
    · have HP : Hid (ChPost W d (fun _ => R) w (.returned (.tuple #[.int .i64 R.1, .bool true])) wr) := ⟨_, Nat.le_refl _, rfl, hbl, _, hdd, HD2.out.2.1⟩
      clear hbl hfr hsome hdd
      go_wp2
      go_ret2
      exact HP.out
end Go.Proofs.Ytgffncbmchimdaa

/-! What is used is what the files have: kept by every operation. -/
namespace Go.Proofs.Ytgffncbmchimdaa
open Go.RowKit Go.Maps Plain
set_option linter.unusedVariables false
set_option linter.unusedSimpArgs false

theorem ins_perm (x : Nm × Nat) : ∀ L : Dir, (ins x L).Perm (x :: L)
  | [] => List.Perm.refl _
  | y :: r => by
    unfold ins
    split
    · exact List.Perm.refl _
    · exact ((ins_perm x r).cons y).trans (List.Perm.swap x y r)
theorem put_perm (L : Dir) (k : Nm) (g : Nat) : (put L k g).Perm ((k, g) :: del L k) := ins_perm _ _
theorem look_none {L : Dir} {k : Nm} (h : look L k = none) : ∀ p ∈ L, p.1 ≠ k := by
  intro p hp e
  obtain ⟨g, hg⟩ := look_some (L := L) (k := k) (List.mem_map.mpr ⟨p, hp, e⟩)
  rw [h] at hg
  simp at hg
theorem del_none {L : Dir} {k : Nm} (h : look L k = none) : del L k = L := by
  unfold del
  rw [List.filter_eq_self]
  intro p hp
  have := look_none h p hp
  simp [this]
theorem look_of_mem {L : Dir} {k : Nm} {g : Nat} (hn : (L.map (·.1)).Nodup) (h : (k, g) ∈ L) : look L k = some g := by
  induction L with
  | nil => simp at h
  | cons p r ih =>
    rw [List.map_cons, List.nodup_cons] at hn
    unfold look
    rw [List.find?_cons]
    rcases List.mem_cons.mp h with e | e
    · subst e; simp
    · have hne : p.1 ≠ k := fun e2 => hn.1 (List.mem_map.mpr ⟨_, e, e2.symm⟩)
      have : (p.1 == k) = false := by simpa using hne
      rw [this]
      exact ih hn.2 e
theorem del_cons (p : Nm × Nat) (L : Dir) (k : Nm) : del (p :: L) k = if p.1 = k then del L k else p :: del L k := by
  unfold del
  rw [List.filter_cons]
  by_cases h : p.1 = k <;> simp [h]
theorem look_perm {L : Dir} {k : Nm} {g : Nat} (hn : (L.map (·.1)).Nodup) (h : look L k = some g) : L.Perm ((k, g) :: del L k) := by
  induction L with
  | nil => simp [look] at h
  | cons p r ih =>
    rw [List.map_cons, List.nodup_cons] at hn
    rw [del_cons]
    by_cases e : p.1 = k
    · have hp : p = (k, g) := by
        unfold look at h
        rw [List.find?_cons, show (p.1 == k) = true by simpa using e] at h
        simp at h
        rw [← e, ← h]
      have hd : del r k = r := by
        unfold del
        rw [List.filter_eq_self]
        intro q hq
        have : q.1 ≠ k := fun e2 => hn.1 (List.mem_map.mpr ⟨q, hq, by rw [e2, e]⟩)
        simp [this]
      rw [if_pos e, hd, hp]
    · rw [if_neg e]
      have h' : look r k = some g := by
        unfold look at h ⊢
        rw [List.find?_cons, show (p.1 == k) = false by simpa using e] at h
        exact h
      exact ((ih hn.2 h').cons p).trans (List.Perm.swap _ _ _)
theorem look_del {L : Dir} {s t : Nm} (h : s ≠ t) : look (del L t) s = look L s := by
  induction L with
  | nil => rfl
  | cons p r ih =>
    rw [del_cons]
    by_cases e : p.1 = t
    · rw [if_pos e, ih]
      unfold look
      rw [List.find?_cons, show (p.1 == s) = false by simpa using fun e2 : p.1 = s => h (by rw [← e2, e])]
    · rw [if_neg e]
      unfold look at ih ⊢
      rw [List.find?_cons, List.find?_cons]
      by_cases e3 : p.1 = s
      · rw [show (p.1 == s) = true by simpa using e3]
      · rw [show (p.1 == s) = false by simpa using e3]
        exact ih

def tT (f : Nat → Nat) (L : Dir) : Nat := (L.map fun p => f p.2).sum
theorem tT_perm {f : Nat → Nat} {L M : Dir} (h : L.Perm M) : tT f L = tT f M := (h.map _).sum_nat
theorem tT_cons (f : Nat → Nat) (p : Nm × Nat) (L : Dir) : tT f (p :: L) = f p.2 + tT f L := by simp [tT]
theorem tT_congr {f f' : Nat → Nat} {L : Dir} (h : ∀ p ∈ L, f p.2 = f' p.2) : tT f L = tT f' L := by
  unfold tT
  rw [List.map_congr_left h]
theorem tT_mem {f : Nat → Nat} {L : Dir} {p : Nm × Nat} (h : p ∈ L) : f p.2 ≤ tT f L := by
  induction L with
  | nil => simp at h
  | cons q r ih =>
    rw [tT_cons]
    rcases List.mem_cons.mp h with e | e
    · subst e; omega
    · have := ih e; omega
theorem tT_upd {f f' : Nat → Nat} {L : Dir} {G : Nat} (hn : (L.map (·.2)).Nodup) (hG : G ∈ L.map (·.2)) (h : ∀ x, x ≠ G → f' x = f x) : tT f' L + f G = tT f L + f' G := by
  induction L with
  | nil => simp at hG
  | cons p r ih =>
    rw [List.map_cons, List.nodup_cons] at hn
    rw [tT_cons, tT_cons]
    by_cases e : p.2 = G
    · have : tT f' r = tT f r := tT_congr (fun q hq => h _ (fun e2 => hn.1 (List.mem_map.mpr ⟨q, hq, by rw [e2, e]⟩)))
      rw [this, e]; omega
    · have hG' : G ∈ r.map (·.2) := by
        rw [List.map_cons, List.mem_cons] at hG
        rcases hG with h1 | h1
        · exact absurd h1.symm e
        · exact h1
      have := ih hn.2 hG'
      rw [h p.2 e]; omega

def Dk.len (k : Dk) : Nat → Nat := fun G => (k.file G).seen.length
/-- No name twice, no file under two names; what is used is what the files have. -/
structure Dk.Sum (k : Dk) : Prop where
  keys : (k.L.map (·.1)).Nodup
  files : (k.L.map (·.2)).Nodup
  used : k.used = (tT k.len k.L : Int)
  quota : 0 ≤ k.quota ∧ k.quota ≤ 1073741824
  lim : k.used ≤ 1073741824
theorem Dk.Sum.uok {k : Dk} (h : k.Sum) : k.Uok :=
  ⟨⟨by rw [h.used]; omega, h.lim⟩, h.quota, fun p hp => by have := tT_mem (f := k.len) hp; have h2 := h.used; unfold Dk.len at this h2; omega⟩
theorem Dk.Sum.spent {k : Dk} (h : k.Sum) : k.spent.Sum := ⟨h.keys, h.files, h.used, h.quota, h.lim⟩
theorem look_file {L : Dir} {s : Nm} {g : Nat} (h : look L s = some g) : g ∈ L.map (·.2) := List.mem_map.mpr ⟨_, look_mem h, rfl⟩

theorem create_sum {k : Dk} {G : Nat} {s : ByteArray} (h : k.Sum) (hl : ∀ p ∈ k.L, k.live p.2) (hG : ¬ k.live G) : (createK k s G).2.Sum := by
  unfold createK
  split
  · exact h
  · split
    · exact h
    · rename_i hs
      have hn : look k.L s.data.toList = none := by cases hh : look k.L s.data.toList with
        | none => rfl
        | some g => rw [hh] at hs; simp at hs
      split
      · exact h
      · split
        · have hp : ((k.spent.addFile G).did (DC.mk s.data.toList G)).L.Perm ((s.data.toList, G) :: k.L) := by
            have := put_perm k.L s.data.toList G
            rw [del_none hn] at this
            exact this
          have hGL : ∀ p ∈ k.L, p.2 ≠ G := fun p hp e => hG (e ▸ hl p hp)
          refine ⟨(hp.map _).nodup_iff.mpr ?_, (hp.map _).nodup_iff.mpr ?_, ?_, h.quota, h.lim⟩
          · rw [List.map_cons, List.nodup_cons]
            refine ⟨fun hm => ?_, h.keys⟩
            obtain ⟨p, hp1, hp2⟩ := List.mem_map.mp hm
            exact look_none hn p hp1 hp2
          · rw [List.map_cons, List.nodup_cons]
            refine ⟨fun hm => ?_, h.files⟩
            obtain ⟨p, hp1, hp2⟩ := List.mem_map.mp hm
            exact hGL p hp1 hp2
          · rw [tT_perm hp, tT_cons]
            have e1 : ((k.spent.addFile G).did (DC.mk s.data.toList G)).len G = 0 := by
              show (upd k.file G ⟨[], [], []⟩ G).seen.length = 0
              rw [upd_same]; rfl
            have e2 : tT ((k.spent.addFile G).did (DC.mk s.data.toList G)).len k.L = tT k.len k.L := tT_congr (fun p hp => by
              show (upd k.file G ⟨[], [], []⟩ p.2).seen.length = _
              rw [upd_other _ _ _ _ (hGL p hp)]; rfl)
            show k.used = _
            rw [e1, e2, h.used]; omega
        · exact h.spent
theorem append_sum {k : Dk} {s : ByteArray} {b : List Nat} (h : k.Sum) : (appendK k s b).2.Sum := by
  unfold appendK
  split
  · split
    · exact h
    · rename_i hq
      split
      · rename_i G hG
        split
        · have hT := tT_upd (f := k.len) (f' := ((k.spent.setFile G ((k.file G).add b)).uses (k.used + b.length)).len) h.files (look_file hG) (fun x hx => by
            show (upd k.file G ((k.file G).add b) x).seen.length = _
            rw [upd_other _ _ _ _ hx]; rfl)
          have e1 : ((k.spent.setFile G ((k.file G).add b)).uses (k.used + b.length)).len G = k.len G + b.length := by
            show (upd k.file G ((k.file G).add b) G).seen.length = _
            rw [upd_same]
            simp [Fl.add, Dk.len]
          have hu := h.used
          have hq1 := h.quota
          have hlim := h.lim
          refine ⟨h.keys, h.files, ?_, h.quota, ?_⟩
          · show k.used + (b.length : Int) = (tT ((k.spent.setFile G ((k.file G).add b)).uses (k.used + b.length)).len k.L : Int)
            omega
          · show k.used + (b.length : Int) ≤ 1073741824
            omega
        · exact h.spent
      · exact h
  · exact h
theorem trunc_sum {k : Dk} {s : ByteArray} {m : Int} (h : k.Sum) : (truncK k s m).2.Sum := by
  unfold truncK
  split
  · split
    · rename_i G hG
      split
      · exact h
      · rename_i hm
        split
        · have hT := tT_upd (f := k.len) (f' := ((k.spent.uses (k.used - ((k.file G).seen.length - m))).setFile G ((k.file G).trim m.toNat)).len) h.files (look_file hG) (fun x hx => by
            show (upd k.file G ((k.file G).trim m.toNat) x).seen.length = _
            rw [upd_other _ _ _ _ hx]; rfl)
          have e1 : ((k.spent.uses (k.used - ((k.file G).seen.length - m))).setFile G ((k.file G).trim m.toNat)).len G = m.toNat := by
            show (upd k.file G ((k.file G).trim m.toNat) G).seen.length = _
            rw [upd_same]
            simp [Fl.trim]
            omega
          have e2 : k.len G = (k.file G).seen.length := rfl
          have hu := h.used
          have hlim := h.lim
          refine ⟨h.keys, h.files, ?_, h.quota, ?_⟩
          · show k.used - (((k.file G).seen.length : Int) - m) = (tT ((k.spent.uses (k.used - ((k.file G).seen.length - m))).setFile G ((k.file G).trim m.toNat)).len k.L : Int)
            omega
          · show k.used - (((k.file G).seen.length : Int) - m) ≤ 1073741824
            omega
        · exact h.spent
    · exact h
  · exact h
theorem sync_sum {k : Dk} {s : ByteArray} (h : k.Sum) : (syncK k s).2.Sum := by
  unfold syncK
  split
  · split
    · rename_i G hG
      split
      · refine ⟨h.keys, h.files, ?_, h.quota, h.lim⟩
        show k.used = (tT _ k.L : Int)
        rw [h.used, tT_congr (f := k.len) (fun p hp => ?_)]
        show (k.file p.2).seen.length = (upd k.file G ⟨(k.file G).seen, (k.file G).seen, []⟩ p.2).seen.length
        by_cases e : p.2 = G
        · rw [e, upd_same]
        · rw [upd_other _ _ _ _ e]
      · exact h.spent
    · exact h
  · exact h
theorem syncDir_sum {k : Dk} (h : k.Sum) : (syncDirK k).2.Sum := by
  unfold syncDirK
  split
  · exact h
  · split
    · exact ⟨h.keys, h.files, h.used, h.quota, h.lim⟩
    · exact h.spent
theorem sub_nodup {L M : Dir} {p : Nm × Nat} (h : (L.map (·.2)).Nodup) (hp : L.Perm (p :: M)) : (M.map (·.2)).Nodup ∧ ∀ q ∈ M, q.2 ≠ p.2 := by
  have := (hp.map (·.2)).nodup_iff.mp h
  rw [List.map_cons, List.nodup_cons] at this
  exact ⟨this.2, fun q hq e => this.1 (List.mem_map.mpr ⟨q, hq, e⟩)⟩
theorem sub_keys {L M : Dir} {p : Nm × Nat} (h : (L.map (·.1)).Nodup) (hp : L.Perm (p :: M)) : (M.map (·.1)).Nodup ∧ ∀ q ∈ M, q.1 ≠ p.1 := by
  have := (hp.map (·.1)).nodup_iff.mp h
  rw [List.map_cons, List.nodup_cons] at this
  exact ⟨this.2, fun q hq e => this.1 (List.mem_map.mpr ⟨q, hq, e⟩)⟩
theorem remove_sum {k : Dk} {s : ByteArray} (h : k.Sum) : (removeK k s).2.Sum := by
  unfold removeK
  split
  · rename_i h0
    split
    · obtain ⟨G, hG, _⟩ := fnd_ok h0
      have hp := look_perm h.keys hG
      have hs : sizeK k s = k.len G := by unfold sizeK; rw [hG]; rfl
      have ht := tT_perm (f := k.len) hp
      rw [tT_cons] at ht
      have ht' : tT k.len k.L = k.len G + tT k.len (del k.L s.data.toList) := ht
      have hu := h.used
      have hlim := h.lim
      refine ⟨(sub_keys h.keys hp).1, (sub_nodup h.files hp).1, ?_, h.quota, ?_⟩
      · show k.used - (sizeK k s : Int) = (tT k.len (del k.L s.data.toList) : Int)
        omega
      · show k.used - (sizeK k s : Int) ≤ 1073741824
        omega
    · exact h.spent
  · exact h
theorem rename_sum {k : Dk} {s t : ByteArray} (h : k.Sum) : (renameK k s t).2.Sum := by
  unfold renameK
  split
  · exact h
  · split
    · exact h
    · rename_i hst
      have hne : s.data.toList ≠ t.data.toList := fun e => hst (by rw [← str_of s, ← str_of t, e])
      split
      · rename_i h0
        split
        · obtain ⟨g, hg, _⟩ := fnd_ok h0
          have hon : ((k.spent.uses (k.used - sizeK k t)).did (DC.mv s.data.toList t.data.toList)).L = del (put k.L t.data.toList g) s.data.toList := by
            show DC.on k.L (DC.mv s.data.toList t.data.toList) = _
            rw [DC.on_mv, hg]; rfl
          have hpL : ((k.spent.uses (k.used - sizeK k t)).did (DC.mv s.data.toList t.data.toList)).L.Perm ((t.data.toList, g) :: del (del k.L t.data.toList) s.data.toList) := by
            rw [hon]
            have := (put_perm k.L t.data.toList g).filter (fun p => !(p.1 == s.data.toList))
            refine this.trans ?_
            show (del ((t.data.toList, g) :: del k.L t.data.toList) s.data.toList).Perm _
            rw [del_cons, if_neg (fun e => hne e.symm)]
          have hlen : ((k.spent.uses (k.used - sizeK k t)).did (DC.mv s.data.toList t.data.toList)).len = k.len := rfl
          have hu := h.used
          have hlim := h.lim
          have hd : look (del k.L t.data.toList) s.data.toList = some g := by rw [look_del hne]; exact hg
          have fin : ∀ M : Dir, del k.L t.data.toList = M → (M.map (·.1)).Nodup → (∀ q ∈ M, q.1 ≠ t.data.toList) → (M.map (·.2)).Nodup → (tT k.len k.L = sizeK k t + tT k.len M) → ((k.spent.uses (k.used - sizeK k t)).did (DC.mv s.data.toList t.data.toList)).Sum := by
            intro M hM n1 n2 n3 hT
            rw [hM] at hd hpL
            have hpM := look_perm n1 hd
            obtain ⟨a1, a2⟩ := sub_keys n1 hpM
            obtain ⟨b1, b2⟩ := sub_nodup n3 hpM
            have hTM := tT_perm (f := k.len) hpM
            rw [tT_cons] at hTM
            have hTM' : tT k.len M = k.len g + tT k.len (del M s.data.toList) := hTM
            refine ⟨(hpL.map _).nodup_iff.mpr ?_, (hpL.map _).nodup_iff.mpr ?_, ?_, h.quota, ?_⟩
            · rw [List.map_cons, List.nodup_cons]
              refine ⟨fun hm => ?_, a1⟩
              obtain ⟨q, hq1, hq2⟩ := List.mem_map.mp hm
              exact n2 q (mem_del hq1) hq2
            · rw [List.map_cons, List.nodup_cons]
              refine ⟨fun hm => ?_, b1⟩
              obtain ⟨q, hq1, hq2⟩ := List.mem_map.mp hm
              exact b2 q hq1 hq2
            · rw [hlen, tT_perm hpL, tT_cons]
              show k.used - (sizeK k t : Int) = ((k.len g + tT k.len (del M s.data.toList) : Nat) : Int)
              omega
            · show k.used - (sizeK k t : Int) ≤ 1073741824
              omega
          cases ht : look k.L t.data.toList with
          | none =>
            have hs : sizeK k t = 0 := by unfold sizeK; rw [ht]; rfl
            refine fin k.L (del_none ht) h.keys (look_none ht) h.files (by rw [hs]; omega)
          | some x =>
            have hp := look_perm h.keys ht
            have hs : sizeK k t = k.len x := by unfold sizeK; rw [ht]; rfl
            have hT := tT_perm (f := k.len) hp
            rw [tT_cons] at hT
            obtain ⟨a1, a2⟩ := sub_keys h.keys hp
            exact fin _ rfl a1 a2 (sub_nodup h.files hp).1 (by rw [hs]; exact hT)
        · exact h.spent
      · exact h
end Go.Proofs.Ytgffncbmchimdaa

/-! Fuse. -/
namespace Go.Proofs.Ytgffncbmchimdaa
open Go.RowKit Go.Maps Plain
set_option linter.unusedVariables false
set_option linter.unusedSimpArgs false
set_option maxRecDepth 1000000

def Dk.fuses (k : Dk) (n : Int) : Dk := { k with fused := decide (0 ≤ n), left := n }
def fuseK (k : Dk) (n : Int) : Dk := if k.dead then k else k.fuses n
theorem fuseSt {S : Nat → Prop} {w w1 : World} {d : Nat} {k : Dk} (h : St S w d k w1) (n : Int) (b : Bool) (hb : b = decide (0 ≤ n)) : St S w d (k.fuses n) ((w1.setCell ⟨d, 6, none⟩ (.bool b)).setCell ⟨d, 7, none⟩ (.int .i64 n)) := by
  subst hb
  obtain ⟨⟨ms, md, vc, rc, Sf, hm, hS1, hS2, hS3⟩, hc⟩ := h
  have hg := grow_trans (grow_set w1 d 6 (.bool (decide (0 ≤ n)))) (grow_set (w1.setCell ⟨d, 6, none⟩ (.bool (decide (0 ≤ n)))) d 7 (.int .i64 n)) (.inl rfl)
  have hcl := dset (dset hm.cells 6 (.bool (decide (0 ≤ n)))) 7 (.int .i64 n)
  have hsz : ((w1.setCell ⟨d, 6, none⟩ (.bool (decide (0 ≤ n)))).setCell ⟨d, 7, none⟩ (.int .i64 n)).heap.size = w1.heap.size := by simp
  generalize (w1.setCell ⟨d, 6, none⟩ (.bool (decide (0 ≤ n)))).setCell ⟨d, 7, none⟩ (.int .i64 n) = W at *
  have keep : ∀ x, x < w1.heap.size → x ≠ d → W.heap[x]? = w1.heap[x]? := fun x hx h1 => hg.block x hx (by simpa using h1)
  have hE : ∀ x, Ext S w w1 x → Ext S w W x := fun x hx => by
    rcases hx with hx | hx
    · exact .inl hx
    · exact .inr ⟨hx.1, by omega⟩
  have hdS : S d ∨ w.heap.size ≤ d := by
    rcases hS1 d (.inl rfl) with h | h
    · exact .inl h
    · exact .inr h.1
  refine ⟨⟨ms, md, vc, rc, Sf, ⟨hcl, hm.seen.of_block (fun b e => keep b (hm.seen.rlt b e) (hm.sepS b e).1), hm.dur.of_block (fun b e => keep b (hm.dur.rlt b e) (hm.sepD b e).1), hm.chg.of_block hg.size (fun b e => keep b (hm.chg.rlt b e) (hm.sepC b e)), fun G hG => (hm.files G hG).frame hg.size (fun x hx => keep x ((hm.files G hG).live x hx) (hm.sepF G hG x hx).1), hm.sepS, hm.sepD, hm.sepC, hm.sepF, hm.sepFF⟩, fun x hx => hE x (hS1 x hx), fun G x hG hx => hE x (hS2 G x hG hx), fun x hx => ?_⟩, hc.grown hg (fun g e => by simp at e; subst e; exact hdS)⟩
  rcases hx with hx | hx
  · have := hS3 x (.inl hx); omega
  · exact hx.2
theorem fuseOf {S : Nat → Prop} {w w1 : World} {d : Nat} {k : Dk} (h : St S w d k w1) (n : Int) (hq1 : -9223372036854775808 ≤ n) (hq2 : n ≤ 9223372036854775807) : Calls Try.prog 16 #[.pointer (some ⟨d, 0, none⟩), .int .i64 n] w1 fun e w' => e = .returned (.tuple #[]) ∧ St S w d (fuseK k n) w' := by
  have HS : Hid (St S w d k w1) := h
  have HW : Hid (∀ b, b = decide (0 ≤ n) → St S w d (k.fuses n) ((w1.setCell ⟨d, 6, none⟩ (.bool b)).setCell ⟨d, 7, none⟩ (.int .i64 n))) := fun b hb => fuseSt h n b hb
  obtain ⟨ms, md, vc, rc, Sf, hm⟩ := h.at
  obtain ⟨⟨_, _, _, _, _, _, c6, c7, c8⟩, ⟨_, _, _, _, _, _, z6, z7, z8⟩⟩ := dcells hm.cells
  clear hm h
  cases hb : k.dead with
  | true =>
    have HE : Hid (fuseK k n = k) := by unfold Hid fuseK; rw [hb]; rfl
    rw [HE.out]
    rw [hb] at c8
    clear hb
    go_enter Try.func16, Try.ntmps16
    go_wp2
    (try simp only [Exit.inBlock, Exit.then])
    refine bodyPost_ret (results_none rfl _ _ _) rfl ?_
    exact ⟨rfl, HS.out⟩
  | false =>
    have HE : Hid (fuseK k n = k.fuses n) := by unfold Hid fuseK; rw [hb]; rfl
    rw [HE.out]
    rw [hb] at c8
    clear hb
    go_enter Try.func16, Try.ntmps16
    go_wp2
    go_end0
    exact ⟨rfl, HW.out _ (by simp)⟩
end Go.Proofs.Ytgffncbmchimdaa

/-! Any changing step, and what it keeps; the bytes of an image. -/
namespace Go.Proofs.Ytgffncbmchimdaa
open Go.RowKit Go.Maps Plain
set_option linter.unusedVariables false
set_option linter.unusedSimpArgs false

theorem changeAll {W w : World} {d n : Nat} {k : Dk} (kd : Int) (nm to : ByteArray) (at' m : Int) (vb vp : Value) (l : List Nat) (hk1 : 1 ≤ kd) (hk7 : kd ≤ 7) (h : Dsk W d k w) (hs : nm.size ≤ maxLen) (ht : to.size ≤ maxLen) (hm : I64 m) (hb : BytesAt W vb l) (hl : l.length ≤ 140737488351232) (hk : k.Dok n) (hu : k.Uok) (hn : n ≤ 4398046511103) :
    Calls Try.prog 6 #[.pointer (some ⟨d, 0, none⟩), .agg #[.int .i64 kd, .string nm, .string to, .int .i64 at', .int .i64 m, vb, vp]] w (ChPost W d (chK k kd nm to m l) w) := by
  have : kd = 1 ∨ kd = 2 ∨ kd = 3 ∨ kd = 4 ∨ kd = 5 ∨ kd = 6 ∨ kd = 7 := by omega
  rcases this with rfl | rfl | rfl | rfl | rfl | rfl | rfl
  · exact changeCreate nm to at' m vb vp h hs hk hn
  · exact changeAppend nm to at' m vb vp l h hs (hb.later h.1) (fun w' hw' => hb.later hw') hl hk hu hn
  · exact changeTrunc nm to at' m vb vp h hs hm hk hu hn
  · exact changeSync nm to at' m vb vp h hs hk hn
  · exact changeSyncDir nm to at' m vb vp h hk hn
  · exact changeRename nm to at' m vb vp h hs ht hk hu hn
  · exact changeRemove nm to at' m vb vp h hs hk hu hn
theorem chK_dok {k : Dk} {n G : Nat} {kd m : Int} {nm to : ByteArray} {l : List Nat} (h : k.Dok n) (hu : k.Uok) (hs : nm.size ≤ maxLen) (ht : to.size ≤ maxLen) (hn : n ≤ 4398046511102) : (chK k kd nm to m l G).2.Dok (n + 1) := by
  unfold chK
  split
  · exact create_dok h hs hn
  · split
    · exact append_dok h hu hn
    · split
      · exact trunc_dok h hn
      · split
        · exact sync_dok h
        · split
          · exact syncDir_dok h
          · split
            · exact rename_dok h hs ht hn
            · exact remove_dok h hs hn
theorem chK_sum {k : Dk} {G : Nat} {kd m : Int} {nm to : ByteArray} {l : List Nat} (h : k.Sum) (hl : ∀ p ∈ k.L, k.live p.2) (hG : ¬ k.live G) : (chK k kd nm to m l G).2.Sum := by
  unfold chK
  split
  · exact create_sum h hl hG
  · split
    · exact append_sum h
    · split
      · exact trunc_sum h
      · split
        · exact sync_sum h
        · split
          · exact syncDir_sum h
          · split
            · exact rename_sum h
            · exact remove_sum h
/-- A disk whose power is on, and stays on. -/
structure Dk.On (k : Dk) : Prop where
  dead : k.dead = false
  fused : k.fused = false
theorem Dk.On.can {k : Dk} (h : k.On) : k.can = true := by unfold Dk.can spd; rw [h.fused]; rfl
theorem Dk.On.spent {k : Dk} (h : k.On) : k.spent.dead = false ∧ k.spent.fused = false := by
  refine ⟨?_, h.fused⟩
  show (spd k.ops k.fused k.left k.dead).2.2.2 = false
  unfold spd
  rw [h.fused, h.dead]; rfl
theorem Dk.On.chK {k : Dk} {G : Nat} {kd m : Int} {nm to : ByteArray} {l : List Nat} (h : k.On) : (chK k kd nm to m l G).2.On ∧ (Go.Proofs.Ytgffncbmchimdaa.chK k kd nm to m l G).2.quota = k.quota := by
  have h1 := h.spent.1
  have h2 := h.spent.2
  unfold Go.Proofs.Ytgffncbmchimdaa.chK createK appendK truncK syncK syncDirK renameK removeK
  repeat' split
  all_goals exact ⟨⟨by first | exact h.dead | exact h1, by first | exact h.fused | exact h2⟩, rfl⟩

/-- No other operation than an append is refused for want of room, or makes more of what is used. -/
theorem sizeK_nonneg (k : Dk) (s : ByteArray) : (0 : Int) ≤ (sizeK k s : Int) := Int.natCast_nonneg _
theorem fnd_ne33 (dead : Bool) (L : Dir) (s : ByteArray) : (fnd dead L s).2 ≠ 33 := by
  unfold fnd
  repeat' split
  all_goals simp
theorem rdy_ne33 (dead : Bool) (ns : List ByteArray) : rdy dead ns ≠ 33 := by
  unfold rdy
  repeat' split
  all_goals simp
theorem chK_less {k : Dk} {G : Nat} {kd m : Int} {nm to : ByteArray} {l : List Nat} (hne : kd ≠ 2) : (chK k kd nm to m l G).1 ≠ 33 ∧ (chK k kd nm to m l G).2.used ≤ k.used := by
  have h1 := fnd_ne33 k.dead k.L nm
  have h2 := rdy_ne33 k.dead [nm]
  have h3 := rdy_ne33 k.dead [nm, to]
  have h4 := sizeK_nonneg k nm
  have h5 := sizeK_nonneg k to
  unfold chK
  rw [if_neg hne]
  split
  · unfold createK
    repeat' split
    all_goals exact ⟨by first | exact h2 | simp, Int.le_refl _⟩
  · split
    · unfold truncK
      split
      · split
        · split
          · exact ⟨by simp, Int.le_refl _⟩
          · split
            · refine ⟨by simp, ?_⟩
              show k.used - _ ≤ k.used
              omega
            · exact ⟨by simp, Int.le_refl _⟩
        · exact ⟨by simp, Int.le_refl _⟩
      · exact ⟨h1, Int.le_refl _⟩
    · split
      · unfold syncK
        repeat' split
        all_goals exact ⟨by first | exact h1 | simp, Int.le_refl _⟩
      · split
        · unfold syncDirK
          repeat' split
          all_goals exact ⟨by simp, Int.le_refl _⟩
        · split
          · unfold renameK
            repeat' split
            all_goals first
              | exact ⟨by first | exact h1 | exact h3 | simp, Int.le_refl _⟩
              | (refine ⟨by simp, ?_⟩; show k.used - _ ≤ k.used; omega)
          · unfold removeK
            repeat' split
            all_goals first
              | exact ⟨by first | exact h1 | simp, Int.le_refl _⟩
              | (refine ⟨by simp, ?_⟩; show k.used - _ ≤ k.used; omega)
/-- What an append does. -/
theorem append_refused {k : Dk} {s : ByteArray} {b : List Nat} (h : (szK k s).2 ≠ 0) : appendK k s b = ((szK k s).2, k) := by
  unfold szK at h ⊢
  by_cases h0 : (fnd k.dead k.L s).2 = 0
  · rw [if_pos h0] at h; exact absurd rfl h
  · rw [if_neg h0] at h ⊢
    unfold appendK
    rw [if_neg h0]
theorem append_over {k : Dk} {s : ByteArray} {b : List Nat} (h : (szK k s).2 = 0) (hq : 0 < b.length ∧ k.quota - k.used < b.length) : appendK k s b = (33, k) := by
  have h0 : (fnd k.dead k.L s).2 = 0 := by
    unfold szK at h
    by_cases h0 : (fnd k.dead k.L s).2 = 0
    · exact h0
    · rw [if_neg h0] at h; exact absurd h h0
  unfold appendK
  rw [if_pos h0, if_pos hq]
theorem append_done {k : Dk} {s : ByteArray} {b : List Nat} (ho : k.On) (h : (szK k s).2 = 0) (hq : ¬ (0 < b.length ∧ k.quota - k.used < b.length)) :
    (appendK k s b).1 = 0 ∧ (szK (appendK k s b).2 s).2 = 0 ∧ (szK (appendK k s b).2 s).1 = (szK k s).1 + b.length ∧ (appendK k s b).2.used = k.used + b.length := by
  have h0 : (fnd k.dead k.L s).2 = 0 := by
    unfold szK at h
    by_cases h0 : (fnd k.dead k.L s).2 = 0
    · exact h0
    · rw [if_neg h0] at h; exact absurd h h0
  obtain ⟨G, hG, hf⟩ := fnd_ok h0
  have e : appendK k s b = (0, (k.spent.setFile G ((k.file G).add b)).uses (k.used + b.length)) := by
    unfold appendK
    rw [if_pos h0, if_neg hq, hG]
    simp only [ho.can, if_true]
  have hd : ((k.spent.setFile G ((k.file G).add b)).uses (k.used + b.length)).dead = k.dead := by
    show k.spent.dead = k.dead
    rw [ho.spent.1, ho.dead]
  have hL : ((k.spent.setFile G ((k.file G).add b)).uses (k.used + b.length)).L = k.L := rfl
  rw [e]
  unfold szK
  rw [if_pos h0, hd, hL, if_pos h0]
  refine ⟨rfl, rfl, ?_, rfl⟩
  unfold sizeK
  rw [hL, hG]
  show (upd k.file G ((k.file G).add b) G).seen.length = (k.file G).seen.length + b.length
  rw [upd_same]
  simp [Fl.add]

/-- All bytes of an image. -/
def imT (im : List (Nm × List Nat)) : Nat := (im.map fun p => p.2.length).sum
theorem imT_take (im : List (Nm × List Nat)) (j : Nat) (p : Nm × List Nat) (h : im[j]? = some p) : imT (im.take (j + 1)) = imT (im.take j) + p.2.length := by
  obtain ⟨hj, e⟩ := List.getElem?_eq_some_iff.mp h
  unfold imT
  rw [List.take_succ_eq_append_getElem hj, e]
  simp
theorem imT_le (im : List (Nm × List Nat)) (j : Nat) : imT (im.take j) ≤ imT im := by
  have : imT im = imT (im.take j) + imT (im.drop j) := by
    unfold imT
    rw [← List.sum_append, ← List.map_append, List.take_append_drop]
  omega
theorem imK_map (k : Dk) (ks : List Nm) : imgL k.L (fun (_ : Unit) G => (k.file G).seen) (fun _ _ => ()) () ks = ks.map fun n => (n, (k.file (fileOf k.L n)).seen) := by
  induction ks with
  | nil => rfl
  | cons x r ih => simp only [imgL, ih, List.map_cons]
theorem imK_total {k : Dk} (h : (k.L.map (·.1)).Nodup) : imT (imK k) = tT k.len k.L := by
  unfold imK imT
  rw [imK_map, List.map_map]
  have hp : (nms k.L).Perm (k.L.map (·.1)) := srt_perm _
  rw [(hp.map _).sum_nat, List.map_map]
  unfold tT
  congr 1
  apply List.map_congr_left
  intro p hp
  show (k.file (fileOf k.L p.1)).seen.length = (k.file p.2).seen.length
  unfold fileOf
  rw [look_of_mem h hp]
  rfl

end Go.Proofs.Ytgffncbmchimdaa

/-! A disk that has begun. -/
namespace Go.Proofs.Ytgffncbmchimdaa
open Go.RowKit Go.Maps Plain
set_option linter.unusedVariables false
set_option linter.unusedSimpArgs false

def nmF : ByteArray := ⟨#[102, 105, 114, 115, 116]⟩
def kF : Nm := [102, 105, 114, 115, 116]
theorem szF : nmF.size ≤ maxLen := by unfold maxLen; decide
def e1 (q : Int) (G : Nat) : Dk := ⟨[(kF, G)], [], [DC.mk kF G], 0, q, 1, false, 0, false, upd F0 G ⟨[], [], []⟩, lv1 G⟩
def e2 (q : Int) (G : Nat) : Dk := ⟨[(kF, G)], [], [DC.mk kF G], 1, q, 2, false, 0, false, upd (upd F0 G ⟨[], [], []⟩) G ⟨[7], [], [FC.add [7]]⟩, lv1 G⟩
theorem x1 (q : Int) (G : Nat) : createK (Dk.fresh q) nmF G = (0, e1 q G) := by rfl
theorem x2 (q : Int) (G : Nat) (h : 1 ≤ q) : appendK (e1 q G) nmF [7] = (0, e2 q G) := by
  have a1 : (fnd (e1 q G).dead (e1 q G).L nmF).2 = 0 := by rfl
  have a2 : look (e1 q G).L nmF.data.toList = some G := by rfl
  have a3 : (e1 q G).file G = ⟨[], [], []⟩ := upd_same _ _ _
  have a4 : (e1 q G).can = true := by rfl
  unfold appendK
  rw [if_pos a1, if_neg (by show ¬ (0 < 1 ∧ q - 0 < ((1 : Nat) : Int)); omega), a2]
  simp only [a3, a4, if_true, Fl.add]
  rfl
theorem x3 (G : Nat) : appendK (e1 0 G) nmF [7] = (33, e1 0 G) := by
  have a1 : (fnd (e1 0 G).dead (e1 0 G).L nmF).2 = 0 := by rfl
  unfold appendK
  rw [if_pos a1, if_pos (by show (0 < 1 ∧ (0 : Int) - 0 < ((1 : Nat) : Int)); omega)]
/-- The disk that has begun. -/
def bg (q : Int) (G : Nat) : Dk := if q = 0 then e1 0 G else e2 q G
theorem e1_dok (q : Int) (G : Nat) : (e1 q G).Dok 1 := by have := create_dok (G := G) (fresh_dok q) szF (by omega); rwa [x1] at this
theorem e1_sum (q : Int) (G : Nat) (h0 : 0 ≤ q) (h1 : q ≤ 1073741824) : (e1 q G).Sum := ⟨by simp [e1], by simp [e1], by
  show (0 : Int) = ((((upd F0 G ⟨[], [], []⟩ G).seen.length + 0 : Nat)) : Int)
  rw [upd_same]; rfl, ⟨h0, h1⟩, by show (0 : Int) ≤ 1073741824; omega⟩
theorem e2_sum (q : Int) (G : Nat) (h0 : 0 ≤ q) (h1 : q ≤ 1073741824) : (e2 q G).Sum := ⟨by simp [e2], by simp [e2], by
  show (1 : Int) = ((((upd (upd F0 G ⟨[], [], []⟩) G ⟨[7], [], [FC.add [7]]⟩ G).seen.length + 0 : Nat)) : Int)
  rw [upd_same]; rfl, ⟨h0, h1⟩, by show (1 : Int) ≤ 1073741824; omega⟩
theorem e2_dok (q : Int) (G : Nat) (h0 : 1 ≤ q) (h1 : q ≤ 1073741824) : (e2 q G).Dok 2 := by have := append_dok (s := nmF) (b := [7]) (e1_dok q G) (e1_sum q G (by omega) h1).uok (by omega); rwa [x2 q G h0] at this
theorem Dk.Ok.mono {k : Dk} {n m : Nat} (h : k.Ok n) (hm : n ≤ m) : k.Ok m := ⟨h.refs, fun G hG => ⟨(h.fok G hG).1, Nat.le_trans (h.fok G hG).2 hm⟩, ⟨h.ops.1, by have := h.ops.2; omega⟩, h.fuse⟩
theorem Dk.Dok.mono {k : Dk} {n m : Nat} (h : k.Dok n) (hm : n ≤ m) : k.Dok m := ⟨h.ok.mono hm, h.dir, h.eq, Nat.le_trans h.cnt hm, h.few⟩
theorem bg_dok (q : Int) (G : Nat) (h0 : 0 ≤ q) (h1 : q ≤ 1073741824) : (bg q G).Dok 2 := by
  unfold bg
  split
  · exact (e1_dok 0 G).mono (by omega)
  · exact e2_dok q G (by omega) h1
theorem bg_sum (q : Int) (G : Nat) (h0 : 0 ≤ q) (h1 : q ≤ 1073741824) : (bg q G).Sum := by
  unfold bg
  split
  · exact e1_sum 0 G (by omega) (by omega)
  · exact e2_sum q G h0 h1
theorem bg_on (q : Int) (G : Nat) : (bg q G).On := by
  unfold bg
  split <;> exact ⟨rfl, rfl⟩

theorem one7 (w : World) : BytesAt (w.alloc (.cells #[.int .u8 7] 5)) (.slice (some ⟨w.heap.size, 0, none⟩) 1 1) [7] := by
  refine ⟨_, 1, rfl, by simp, by unfold maxLen; omega, by simp, fun _ => ⟨w.heap.size, 0, rfl, fun j hj => ?_⟩⟩
  have : j = 0 := by simp at hj; omega
  subst this
  rw [World.cell?_alloc_at _ _ _ _ rfl]
  rfl
theorem append7 {W w1 : World} {d n : Nat} {k : Dk} (h : Dsk W d k w1) (hk : k.Dok n) (hu : k.Uok) (hn : n ≤ 4398046511103) : Calls Try.prog 22 #[.pointer (some ⟨d, 0, none⟩), .string ⟨#[102, 105, 114, 115, 116]⟩, .slice (some ⟨w1.heap.size, 0, none⟩) 1 1] (w1.alloc (.cells #[.int .u8 7] 5)) (DPost W d (appendK k nmF [7])) := by
  obtain ⟨h1, S, h2, h3⟩ := h
  have hb : Below w1.heap.size w1 (w1.alloc (.cells #[.int .u8 7] 5)) := (Below.refl _ _).alloc (Nat.le_refl _) _
  have hS := h2.rng
  refine (appendOf d k n S nmF szF _ [7] _ (h2.later hb) hk.ok hu hn (fun w' hc => ?_)).mono ?_
  · obtain ⟨a, cap, e, b1, b2, b3, b4⟩ := one7 w1
    refine ⟨a, cap, e, b1, b2, b3, fun hne => ?_⟩
    obtain ⟨b, off, e2, b5⟩ := b4 hne
    refine ⟨b, off, e2, fun j hj => ?_⟩
    have hb' : b = w1.heap.size := by
      rw [e2] at e
      simp only [Value.slice.injEq, Option.some.injEq, Addr.mk.injEq] at e
      exact e.1.1.symm
    rw [World.cell?_of_block (w := w1.alloc (.cells #[.int .u8 7] 5)) (a := ⟨b, off + j, none⟩) (hc.block b (by rw [hb']; simp) (fun hs => by have := hS b hs; omega))]
    exact b5 j hj
  · rintro e w2 hp
    exact Dsk.op (h1.trans (hb.mono h1.size)) h3 hp
theorem newBad (q : Int) (hq1 : I64 q) (hq : qB q = false) (w : World) : Calls Try.prog 20 #[.int .i64 q] w fun e w' => e = .returned (.tuple #[.pointer none, .int .i64 3]) ∧ w' = w := by
  have HL : Hid (Calls Try.prog 13 #[.slice none 0 0, .int .i64 q] w fun e w' => e = .returned (.tuple #[.pointer none, .int .i64 3]) ∧ w' = w) := by
    refine (loadNil q hq1.1 hq1.2 w).mono ?_
    rintro e w' (⟨_, rfl, rfl⟩ | ⟨h, _⟩)
    · exact ⟨rfl, rfl⟩
    · rw [hq] at h; simp at h
  go_enter Try.func20, Try.ntmps20
  go_wp2_with fail
  refine HL.out.mono ?_
  rintro e w1 ⟨rfl, rfl⟩
  go_wp2
  go_ret2
  exact ⟨rfl, rfl⟩

def BgPost (q : Int) (w : World) (e : Ending) (w' : World) : Prop := (qB q = false ∧ e = .returned (.tuple #[.pointer none, .bool true]) ∧ Below w.heap.size w w') ∨
  (∃ d G, e = .returned (.tuple #[.pointer (some ⟨d, 0, none⟩), .bool true]) ∧ Dsk w d (bg q G) w' ∧ 0 ≤ q ∧ q ≤ 1073741824)

theorem rd1 {W w1 : World} {d n G : Nat} {q : Int} (h : Dsk W d (e1 q G) w1) : Calls Try.prog 23 #[.pointer (some ⟨d, 0, none⟩), .string ⟨#[102, 105, 114, 115, 116]⟩, .int .i64 0, .int .i64 9] w1 fun e w2 => ∃ a c, e = .returned (.tuple #[.slice a 0 c, .int .i64 0]) ∧ c ≤ 2 ^ 63 - 1 ∧ Dsk W d (e1 q G) w2 := by
  refine (readD (s := nmF) h szF (e1_dok q G) 0 9 (by omega) rfl (Nat.zero_le _)).mono ?_
  rintro e w2 ⟨a, l, c, r, rfl, hw, hb⟩
  have a1 : rdB (e1 q G) nmF 0 9 = [] := by
    show ((upd F0 G ⟨[], [], []⟩ G).seen.drop 0).take 9 = []
    rw [upd_same]; rfl
  rw [a1] at hw
  have hl := own_len hw
  obtain ⟨q1, q2⟩ := own_cap hw
  simp at hl
  subst hl
  exact ⟨a, c, rfl, q2, h.later hb⟩
theorem rd2 {W w1 : World} {d n G : Nat} {q : Int} (h0 : 1 ≤ q) (h1 : q ≤ 1073741824) (h : Dsk W d (e2 q G) w1) : Calls Try.prog 23 #[.pointer (some ⟨d, 0, none⟩), .string ⟨#[102, 105, 114, 115, 116]⟩, .int .i64 0, .int .i64 9] w1 fun e w2 => ∃ b off c, e = .returned (.tuple #[.slice (some ⟨b, off, none⟩) 1 c, .int .i64 0]) ∧ w2.cell? ⟨b, off, none⟩ = some (.int .u8 7) ∧ 1 ≤ c ∧ c ≤ 2 ^ 63 - 1 ∧ Dsk W d (e2 q G) w2 := by
  have hsz : sizeK (e2 q G) nmF = 1 := by
    show (upd (upd F0 G ⟨[], [], []⟩) G ⟨[7], [], [FC.add [7]]⟩ G).seen.length = 1
    rw [upd_same]; rfl
  refine (readD (s := nmF) h szF (e2_dok q G h0 h1) 0 9 (by omega) rfl (Nat.zero_le _)).mono ?_
  rintro e w2 ⟨a, l, c, r, rfl, hw, hb⟩
  have a1 : rdB (e2 q G) nmF 0 9 = [7] := by
    show ((upd (upd F0 G ⟨[], [], []⟩) G ⟨[7], [], [FC.add [7]]⟩ G).seen.drop 0).take 9 = [7]
    rw [upd_same]; rfl
  rw [a1] at hw
  have hl := own_len hw
  obtain ⟨q1, q2⟩ := own_cap hw
  have hl' : l = 1 := by simpa using hl.symm
  subst hl'
  obtain ⟨a', cap, e, _, _, _, hc⟩ := hw.bytes
  simp only [Value.slice.injEq] at e
  obtain ⟨rfl, _, rfl⟩ := e
  obtain ⟨b, off, rfl, hc2⟩ := hc (by simp)
  have h7 := hc2 0 (by simp)
  exact ⟨b, off, c, rfl, h7, q1, q2, h.later hb⟩

set_option maxHeartbeats 4000000 in
set_option maxRecDepth 1000000 in
theorem begunOf (q : Int) (hq : I64 q) (w : World) : Calls Try.prog 5 #[.int .i64 q] w (BgPost q w) := by
  obtain ⟨hq1, hq2⟩ := hq
  by_cases h0 : q < 0
  · have HN : Hid (Calls Try.prog 20 #[.int .i64 q] w fun e w' => e = .returned (.tuple #[.pointer none, .int .i64 3]) ∧ w' = w) := newBad q ⟨hq1, hq2⟩ (by simp [qB]; omega) w
    have HP : Hid (BgPost q w (.returned (.tuple #[.pointer none, .bool true])) w) := .inl ⟨by simp [qB]; omega, rfl, Below.refl _ _⟩
    go_enter Try.func5, Try.ntmps5
    go_wp2_with fail
    refine HN.out.mono ?_
    rintro e w1 ⟨rfl, rfl⟩
    go_wp2
    go_ret2
    exact HP.out
  · by_cases h1 : 1073741824 < q
    · have HN : Hid (Calls Try.prog 20 #[.int .i64 q] w fun e w' => e = .returned (.tuple #[.pointer none, .int .i64 3]) ∧ w' = w) := newBad q ⟨hq1, hq2⟩ (by simp [qB]; omega) w
      have HP : Hid (BgPost q w (.returned (.tuple #[.pointer none, .bool true])) w) := .inl ⟨by simp [qB]; omega, rfl, Below.refl _ _⟩
      go_enter Try.func5, Try.ntmps5
      go_wp2_with fail
      refine HN.out.mono ?_
      rintro e w1 ⟨rfl, rfl⟩
      go_wp2
      go_ret2
      exact HP.out
    · have hq0 : 0 ≤ q := by omega
      have hqm : q ≤ 1073741824 := by omega
      have HN : Hid (Calls Try.prog 20 #[.int .i64 q] w fun e w' => e = .returned (.tuple #[.pointer (some ⟨w.heap.size, 0, none⟩), .int .i64 0]) ∧ Dsk w w.heap.size (Dk.fresh q) w') := newOf q hq0 hqm w
      go_enter Try.func5, Try.ntmps5
      go_wp2_with fail
      refine HN.out.mono ?_
      rintro e w1 ⟨rfl, hd⟩
      have HC : Hid (Calls Try.prog 21 #[.pointer (some ⟨w.heap.size, 0, none⟩), .string ⟨#[102, 105, 114, 115, 116]⟩] w1 fun e w2 => ∃ G, e = .returned (.int .i64 0) ∧ Dsk w w.heap.size (e1 q G) w2) := by
        refine (createD (s := nmF) hd szF (fresh_dok q) (by omega)).mono ?_
        rintro e w2 ⟨G, _, rfl, h2⟩
        rw [x1] at h2 ⊢
        exact ⟨G, rfl, h2⟩
      clear hd
      go_wp2_with fail
      refine HC.out.mono ?_
      rintro e w2 ⟨G, rfl, hd⟩
      have HA : Hid (Calls Try.prog 22 #[.pointer (some ⟨w.heap.size, 0, none⟩), .string ⟨#[102, 105, 114, 115, 116]⟩, .slice (some ⟨w2.heap.size, 0, none⟩) 1 1] (w2.alloc (.cells #[.int .u8 7] 5)) (DPost w w.heap.size (appendK (e1 q G) nmF [7]))) := append7 hd (e1_dok q G) (e1_sum q G hq0 hqm).uok (by omega)
      clear hd HC HN
      by_cases hz : q = 0
      · subst hz
        rw [x3] at HA
        go_wp2_with fail
        refine HA.out.mono ?_
        rintro e w3 ⟨rfl, hd⟩
        have HR : Hid (Calls Try.prog 23 #[.pointer (some ⟨w.heap.size, 0, none⟩), .string ⟨#[102, 105, 114, 115, 116]⟩, .int .i64 0, .int .i64 9] w3 fun e w2 => ∃ a c, e = .returned (.tuple #[.slice a 0 c, .int .i64 0]) ∧ c ≤ 2 ^ 63 - 1 ∧ Dsk w w.heap.size (e1 0 G) w2) := rd1 (n := 0) hd
        clear hd HA
        go_wp2_with fail
        refine HR.out.mono ?_
        rintro e w4 ⟨a, c, rfl, hc, hd⟩
        have HP : Hid (BgPost 0 w (.returned (.tuple #[.pointer (some ⟨w.heap.size, 0, none⟩), .bool true])) w4) := .inr ⟨_, G, rfl, by rw [show bg 0 G = e1 0 G from rfl]; exact hd, by omega, by omega⟩
        clear hd HR
        go_wp2
        go_ret2
        exact HP.out
      · have hq1' : 1 ≤ q := by omega
        rw [x2 q G hq1'] at HA
        go_wp2_with fail
        refine HA.out.mono ?_
        rintro e w3 ⟨rfl, hd⟩
        have HR : Hid (Calls Try.prog 23 #[.pointer (some ⟨w.heap.size, 0, none⟩), .string ⟨#[102, 105, 114, 115, 116]⟩, .int .i64 0, .int .i64 9] w3 fun e w2 => ∃ b off c, e = .returned (.tuple #[.slice (some ⟨b, off, none⟩) 1 c, .int .i64 0]) ∧ w2.cell? ⟨b, off, none⟩ = some (.int .u8 7) ∧ 1 ≤ c ∧ c ≤ 2 ^ 63 - 1 ∧ Dsk w w.heap.size (e2 q G) w2) := rd2 (n := 0) hq1' hqm hd
        clear hd HA
        go_wp2_with fail
        refine HR.out.mono ?_
        rintro e w4 ⟨b, off, c, rfl, hcell, hc1, hc, hd⟩
        have HP : Hid (∀ w5, Below w4.heap.size w4 w5 → BgPost q w (.returned (.tuple #[.pointer (some ⟨w.heap.size, 0, none⟩), .bool true])) w5) := fun w5 hb => .inr ⟨_, G, rfl, by rw [show bg q G = e2 q G by unfold bg; rw [if_neg hz]]; exact hd.later hb, by omega, by omega⟩
        clear hd HR
        go_wp2
        go_quiet (fail)
        go_wp2
        go_ret2
        exact HP.out _ (below_drewN' _ _)
end Go.Proofs.Ytgffncbmchimdaa

/-! A script that came in; more operations on a disk in new memory. -/
namespace Go.Proofs.Ytgffncbmchimdaa
open Go.RowKit Go.Deep Go.ChangeShapes Go.WideShapes Go.ChangeAt Go.Maps Plain
set_option linter.unusedVariables false
set_option linter.unusedSimpArgs false
set_option linter.constructorNameAsVariable false

structure Sp where
  kd : Int
  nm : ByteArray
  to : ByteArray
  at' : Int
  n : Int
  vb : Value
  vp : Value
  data : List Nat
def Sp.none : Sp := ⟨0, ByteArray.empty, ByteArray.empty, 0, 0, .slice Option.none 0 0, .slice Option.none 0 0, []⟩
structure Sp.Ok (s : Sp) : Prop where
  kd : I64 s.kd
  n : I64 s.n
  nm : s.nm.size ≤ maxLen
  to : s.to.size ≤ maxLen
  data : s.data.length ≤ 140737488351232
  vp : ∃ a m c, s.vp = .slice a m c
structure SpAt (w : World) (b o : Nat) (s : Sp) : Prop where
  c0 : w.cell? ⟨b, o, none⟩ = some (.int .i64 s.kd)
  c1 : w.cell? ⟨b, o + 1, none⟩ = some (.string s.nm)
  c2 : w.cell? ⟨b, o + 2, none⟩ = some (.string s.to)
  c3 : w.cell? ⟨b, o + 3, none⟩ = some (.int .i64 s.at')
  c4 : w.cell? ⟨b, o + 4, none⟩ = some (.int .i64 s.n)
  c5 : w.cell? ⟨b, o + 5, none⟩ = some s.vb
  c6 : w.cell? ⟨b, o + 6, none⟩ = some s.vp
  row : BytesAt w s.vb s.data
theorem SpAt.later {w w' : World} {b o : Nat} {s : Sp} (h : SpAt w b o s) (hb : Below w.heap.size w w') : SpAt w' b o s :=
  ⟨by rw [hb.cell (cell_lt h.c0)]; exact h.c0, by rw [hb.cell (cell_lt h.c1)]; exact h.c1, by rw [hb.cell (cell_lt h.c2)]; exact h.c2, by rw [hb.cell (cell_lt h.c3)]; exact h.c3, by rw [hb.cell (cell_lt h.c4)]; exact h.c4, by rw [hb.cell (cell_lt h.c5)]; exact h.c5, by rw [hb.cell (cell_lt h.c6)]; exact h.c6, h.row.later hb⟩
/-- v is a slice of steps that reads as st. -/
def ScrAt (w : World) (v : Value) (st : List Sp) : Prop :=
  ∃ a cap, v = .slice a st.length cap ∧ st.length ≤ cap ∧ cap ≤ maxLen ∧ st.length ≤ 1400000000000 ∧ (∀ s ∈ st, s.Ok) ∧ (st ≠ [] → ∃ b off, a = some ⟨b, off, none⟩ ∧ ∀ j, j < st.length → SpAt w b (off + j * 7) (st.getD j Sp.none))

theorem cells_step : Try.prog.cellsOf 29 = 7 := by kernel_rfl
theorem cells_3 : Try.prog.cellsOf 3 = 1 := by kernel_rfl
theorem cells_9 : Try.prog.cellsOf 9 = 1 := by kernel_rfl
theorem cells_B : Try.prog.cellsOf 27 = 1 := by kernel_rfl
theorem cells_I : Try.prog.cellsOf 23 = 1 := by kernel_rfl
theorem cells_u8 : Try.prog.cellsOf 5 = 1 := by kernel_rfl
theorem bytes_step : Try.prog.bytesOf 29 = 104 := by kernel_rfl
theorem bytes_u8 : Try.prog.bytesOf 5 = 1 := by kernel_rfl

theorem weights_agg {H : Type} {P : Program} {t t' : TypeId} {fs : Array Field} {parts : List (DataW H)} {d : DataW H} {j : Nat} (hu : P.underlying t = some (.struct fs)) (ht : (fs.toList.map (·.type))[j]? = some t') (hd : parts[j]? = some d) : ∀ n ∈ d.weights P t', n ∈ (DataW.agg parts).weights P t := fun n hn => by
  simp only [DataW.weights, hu]
  exact DataW.weights_mem_each ht hd n hn
theorem weights_all {H : Type} {P : Program} {e : TypeId} : ∀ {ds : List (DataW H)} {d : DataW H}, d ∈ ds → ∀ n ∈ d.weights P e, n ∈ DataW.weightsAll P e ds
  | [], d, h, _, _ => by simp at h
  | x :: ds, d, h, n, hn => by
    simp only [DataW.weightsAll, List.mem_append]
    rcases List.mem_cons.mp h with rfl | h
    · exact .inl hn
    · exact .inr (weights_all h n hn)
theorem weights_slice {H : Type} {P : Program} {t e : TypeId} {el sp : List (DataW H)} (hu : P.underlying t = some (.slice e)) : (el.length + sp.length) * P.bytesOf e ∈ (DataW.slice el sp).weights P t := by simp [DataW.weights, hu]
theorem weights_elem {H : Type} {P : Program} {t e : TypeId} {el sp : List (DataW H)} (hu : P.underlying t = some (.slice e)) {d : DataW H} (hd : d ∈ el) : ∀ n ∈ d.weights P e, n ∈ (DataW.slice el sp).weights P t := fun n hn => by
  simp only [DataW.weights, hu, List.mem_cons, List.mem_append]
  exact .inr (.inl (weights_all hd n hn))
theorem wfI {z : Int} (h : (Lit.int .i64 z).wf = true) : I64 z := by
  have := bounds_i64 h
  unfold I64
  omega

set_option maxRecDepth 100000 in
theorem open_sp {H : Type} {enc : TypeId × Value → H} {W : World} {n : Nat} {a : Addr} {i : Nat} {x : DataW H × List MemPlace} {cs' : List Value} (h1 : W.cells? 0 (a.add (i * Try.prog.cellsOf 29)) (Try.prog.cellsOf 29) = some cs')
    (h2 : DataW.trod enc Try.prog W 0 (fun _ => true) true n 29 cs' = some x) (hsz : ∀ m ∈ x.1.weights Try.prog 29, m ≤ reachBytes) :
    ∃ s : Sp, s.Ok ∧ BytesAt W s.vb s.data ∧ W.cell? ((a.add (i * 7)).add 0) = some (.int .i64 s.kd) ∧ W.cell? ((a.add (i * 7)).add 1) = some (.string s.nm) ∧ W.cell? ((a.add (i * 7)).add 2) = some (.string s.to) ∧ W.cell? ((a.add (i * 7)).add 3) = some (.int .i64 s.at') ∧
      W.cell? ((a.add (i * 7)).add 4) = some (.int .i64 s.n) ∧ W.cell? ((a.add (i * 7)).add 5) = some s.vb ∧ W.cell? ((a.add (i * 7)).add 6) = some s.vp := by
  rw [cells_step] at h1
  obtain ⟨_, hlen0, hcell⟩ := World.cells?_some h1
  obtain ⟨xs, m, _, hx, hl, hlen, hf⟩ := DataW.trod_struct Try.underlying29 h2
  rw [cells_step] at hl
  have hlen : xs.length = 7 := hlen
  match cs', hl with
  | [v0, v1, v2, v3, v4, v5, v6], _ =>
    match xs, hlen with
    | [y0, y1, y2, y3, y4, y5, y6], _ =>
      have k0 : DataW.trod enc Try.prog W 0 (fun _ => true) true m 3 [v0] = some y0 := by simpa [cells_3] using hf 0 _ rfl
      have k1 : DataW.trod enc Try.prog W 0 (fun _ => true) true m 9 [v1] = some y1 := by simpa [cells_9] using hf 1 _ rfl
      have k2 : DataW.trod enc Try.prog W 0 (fun _ => true) true m 9 [v2] = some y2 := by simpa [cells_9] using hf 2 _ rfl
      have k3 : DataW.trod enc Try.prog W 0 (fun _ => true) true m 3 [v3] = some y3 := by simpa [cells_3] using hf 3 _ rfl
      have k4 : DataW.trod enc Try.prog W 0 (fun _ => true) true m 3 [v4] = some y4 := by simpa [cells_3] using hf 4 _ rfl
      have k5 : DataW.trod enc Try.prog W 0 (fun _ => true) true m 27 [v5] = some y5 := by simpa [cells_B] using hf 5 _ rfl
      have k6 : DataW.trod enc Try.prog W 0 (fun _ => true) true m 23 [v6] = some y6 := by simpa [cells_I] using hf 6 _ rfl
      have hv6 : ∃ a m c, v6 = .slice a m c := by
        rcases open_ints Try.underlying23 Try.underlying3 cells_3 k6 with ⟨hcs, _⟩ | ⟨x0, l, c, zs, hcs, _⟩
        · simp at hcs; exact ⟨_, _, _, hcs⟩
        · simp at hcs; exact ⟨_, _, _, hcs⟩
      obtain ⟨n0, a0, _, w0⟩ := DataW.trod_int Try.underlying3 k0
      obtain ⟨s1, a1, _, w1⟩ := DataW.trod_string Try.underlying9 k1
      obtain ⟨s2, a2, _, w2⟩ := DataW.trod_string Try.underlying9 k2
      obtain ⟨n3, a3, _, w3⟩ := DataW.trod_int Try.underlying3 k3
      obtain ⟨n4, a4, _, w4⟩ := DataW.trod_int Try.underlying3 k4
      simp only [List.cons.injEq, and_true] at a0 a1 a2 a3 a4
      subst a0 a1 a2 a3 a4
      obtain ⟨l, hB, hll⟩ : ∃ l : List Nat, BytesAt W v5 l ∧ l.length ≤ 140737488351232 := by
        rcases open_ints Try.underlying27 Try.underlying5 cells_u8 k5 with ⟨hcs, _⟩ | ⟨x0, l, c, zs, hcs, _, hl0, hm0, hz, hx0, hcell0, hwz⟩
        · simp at hcs
          subst hcs
          exact ⟨[], BytesAt.nil W, by simp⟩
        · simp at hcs
          subst hcs
          simp only [if_true] at hz
          obtain ⟨l', g1, g2⟩ := bytes_of_row (w := W) (a := some x0) (len := l) (cap := c) (zs := zs) (.inr ⟨x0, rfl, hl0, hm0, hz, hcell0, hwz⟩)
          refine ⟨l', g2, ?_⟩
          have hw : ((lits (H := H) .u8 (zs.take l)).length + (lits (H := H) .u8 (zs.drop l)).length) * Try.prog.bytesOf 5 ≤ reachBytes := by
            refine hsz _ ?_
            rw [hx]
            refine weights_agg (t' := 27) (d := y5.1) (j := 5) Try.underlying29 rfl rfl _ ?_
            rw [hx0]
            exact weights_slice Try.underlying27
          rw [bytes_u8] at hw
          simp only [lits, List.length_map, List.length_take, List.length_drop, reachBytes] at hw
          omega
      exact ⟨⟨n0, s1, s2, n3, n4, v5, v6, l⟩, ⟨wfI w0, wfI w4, w1, w2, hll, hv6⟩, hB, by simpa using hcell 0 (by omega), by simpa using hcell 1 (by omega), by simpa using hcell 2 (by omega), by simpa using hcell 3 (by omega), by simpa using hcell 4 (by omega), by simpa using hcell 5 (by omega), by simpa using hcell 6 (by omega)⟩

theorem open_script {H : Type} {enc : TypeId × Value → H} {W : World} {fuel : Nat} {v : Value} {x : DataW H × List MemPlace} (h : DataW.trod enc Try.prog W 0 (fun _ => true) true fuel 22 [v] = some x)
    (hsz : ∀ m ∈ x.1.weights Try.prog 22, m ≤ reachBytes) : ∃ st : List Sp, ScrAt W v st := by
  rcases open_slice Try.underlying22 h with ⟨hcs, hx⟩ | ⟨a, len, cap, m, n, D, Pl, hcs, hb, hl, hm, hmm, hx, hel⟩
  · simp at hcs
    subst hcs
    exact ⟨[], none, 0, rfl, by simp, by simp, by simp, by simp, by simp⟩
  · simp at hcs
    subst hcs
    simp only [if_true] at hmm
    subst hmm
    have each : ∀ i, i < len → ∃ s : Sp, s.Ok ∧ BytesAt W s.vb s.data ∧ W.cell? ((a.add (i * 7)).add 0) = some (.int .i64 s.kd) ∧ W.cell? ((a.add (i * 7)).add 1) = some (.string s.nm) ∧ W.cell? ((a.add (i * 7)).add 2) = some (.string s.to) ∧ W.cell? ((a.add (i * 7)).add 3) = some (.int .i64 s.at') ∧
      W.cell? ((a.add (i * 7)).add 4) = some (.int .i64 s.n) ∧ W.cell? ((a.add (i * 7)).add 5) = some s.vb ∧ W.cell? ((a.add (i * 7)).add 6) = some s.vp := by
      intro i hi
      obtain ⟨cs', h1, h2⟩ := hel i (by omega)
      refine open_sp h1 h2 (fun q hq => hsz q ?_)
      rw [hx]
      exact weights_elem Try.underlying22 (List.mem_map.mpr ⟨i, List.mem_range.mpr hi, rfl⟩) q hq
    have iT : Inhabited Sp := ⟨Sp.none⟩
    obtain ⟨q, hq⟩ := choose_lt each
    have hbig : len ≤ 1400000000000 := by
      have := hsz _ (by rw [hx]; exact weights_slice Try.underlying22)
      rw [bytes_step] at this
      simp [reachBytes] at this
      omega
    have hlenq : ((List.range len).map q).length = len := by simp
    refine ⟨(List.range len).map q, some a, m, by rw [hlenq], by rw [hlenq]; exact hl, hm, by rw [hlenq]; exact hbig, ?_, ?_⟩
    · intro t ht
      obtain ⟨i, hi, rfl⟩ := List.mem_map.mp ht
      exact (hq i (List.mem_range.mp hi)).1
    · intro hne
      have hlen : 0 < len := by
        rcases Nat.eq_zero_or_pos len with rfl | h
        · simp at hne
        · exact h
      obtain ⟨b, off, spot⟩ := a
      have hspot : spot = none := by
        have := World.cell?_spot (hq 0 hlen).2.2.1
        simpa [Addr.add] using this
      subst hspot
      refine ⟨b, off, rfl, fun k hk => ?_⟩
      have hk' : k < len := by simpa using hk
      obtain ⟨_, hB, c0, c1, c2, c3, c4, c5, c6⟩ := hq k hk'
      rw [WideShapes.add_plain, WideShapes.add_plain] at c0 c1 c2 c3 c4 c5 c6
      have e : ((List.range len).map q).getD k Sp.none = q k := by simp [hk']
      rw [e]
      exact ⟨c0, c1, c2, c3, c4, c5, c6, hB⟩

theorem Dsk.ofSt {W w1 w2 : World} {d : Nat} {k : Dk} {S : Nat → Prop} (h1 : Below W.heap.size W w1) (h3 : ∀ x, S x → W.heap.size ≤ x) (h : St S w1 d k w2) : Dsk W d k w2 := by
  refine ⟨h1.trans (h.2.below h1.size h3), _, h.1, fun x hx => ?_⟩
  rcases hx with hx | hx
  · exact h3 x hx
  · have := h1.size; omega
theorem sizeD {W w1 : World} {d n : Nat} {k : Dk} {s : ByteArray} (h : Dsk W d k w1) (hs : s.size ≤ maxLen) (hk : k.Dok n) : Calls Try.prog 48 #[.pointer (some ⟨d, 0, none⟩), .string s] w1 fun e w2 => e = .returned (.tuple #[.int .i64 ((szK k s).1 : Int), .int .i64 (szK k s).2]) ∧ Dsk W d k w2 := by
  obtain ⟨h1, S, h2, h3⟩ := h
  refine (sizeOf (St.start h2) hk.ok s hs).mono ?_
  rintro e w2 ⟨rfl, hp⟩
  exact ⟨rfl, Dsk.ofSt h1 h3 hp⟩
theorem imageD {W w1 : World} {d n : Nat} {k : Dk} (h : Dsk W d k w1) (hk : k.Dok n) : Calls Try.prog 10 #[.pointer (some ⟨d, 0, none⟩)] w1 fun e w2 => ∃ a l c, e = .returned (.slice a l c) ∧ ImgAt w2 (.slice a l c) (imK k) w1.heap.size ∧ Dsk W d k w2 ∧ Below w1.heap.size w1 w2 := by
  have h0 := h
  obtain ⟨h1, S, h2, h3⟩ := h
  refine (imageAll w1 d k n S h2 hk).mono ?_
  rintro e w2 ⟨a, l, c, rfl, hi, hb⟩
  exact ⟨a, l, c, rfl, hi, h0.later hb, hb⟩
theorem imK_len {k : Dk} {n : Nat} (h : k.Dok n) : (imK k).length ≤ 65536 := by
  unfold imK
  rw [imgL_len, nms_len]
  exact h.few
/-- What a disk keeps in a law with one disk that stays on. -/
structure Dk.Good (k : Dk) (n : Nat) : Prop where
  dok : k.Dok n
  sum : k.Sum
  on : k.On
theorem Dk.Good.chK {k : Dk} {n G : Nat} {kd m : Int} {nm to : ByteArray} {l : List Nat} (h : k.Good n) (hs : nm.size ≤ maxLen) (ht : to.size ≤ maxLen) (hn : n ≤ 4398046511102) (hG : ¬ k.live G) : (chK k kd nm to m l G).2.Good (n + 1) :=
  ⟨chK_dok h.dok h.sum.uok hs ht hn, chK_sum h.sum h.dok.ok.refs hG, h.on.chK.1⟩
theorem Dk.Good.quotas {k : Dk} {n : Nat} {q : Int} (h : k.Good n) (hq : qB q = true) : (k.quotas q).Good n := by
  have hq' : 0 ≤ q ∧ q ≤ 1073741824 := by simpa [qB] using hq
  obtain ⟨⟨⟨a1, a2, a3, a4⟩, b2, b3, b4, b5⟩, ⟨c1, c2, c3, c4, c5⟩, ⟨d1, d2⟩⟩ := h
  exact ⟨⟨⟨a1, a2, a3, a4⟩, b2, b3, b4, b5⟩, ⟨c1, c2, c3, hq', c5⟩, ⟨d1, d2⟩⟩
theorem Dk.Good.mono {k : Dk} {n m : Nat} (h : k.Good n) (hm : n ≤ m) : k.Good m := ⟨h.dok.mono hm, h.sum, h.on⟩
end Go.Proofs.Ytgffncbmchimdaa

/-! Operations on a disk that has nothing to do with some blocks: these stay. -/
namespace Go.Proofs.Ytgffncbmchimdaa
open Go.RowKit Go.Maps Plain
set_option linter.unusedVariables false
set_option linter.unusedSimpArgs false

/-- The blocks P of world W are there as they were. -/
structure Keep (P : Nat → Prop) (W w : World) : Prop where
  os : w.os = W.os
  tape : w.tape = W.tape
  output : w.output = W.output
  size : W.heap.size ≤ w.heap.size
  lt : ∀ x, P x → x < W.heap.size
  block : ∀ x, P x → w.heap[x]? = W.heap[x]?
theorem Keep.refl {P : Nat → Prop} {W : World} (h : ∀ x, P x → x < W.heap.size) : Keep P W W := ⟨rfl, rfl, rfl, Nat.le_refl _, h, fun _ _ => rfl⟩
theorem Keep.later {P : Nat → Prop} {W w w' : World} (h : Keep P W w) (hb : Below w.heap.size w w') : Keep P W w' :=
  ⟨hb.os.trans h.os, hb.tape.trans h.tape, hb.output.trans h.output, Nat.le_trans h.size hb.size, h.lt, fun x hx => (hb.block x (Nat.lt_of_lt_of_le (h.lt x hx) h.size)).trans (h.block x hx)⟩
theorem Keep.chg {P S : Nat → Prop} {W w w' : World} (h : Keep P W w) (hc : Chg S w w') (hS : ∀ x, S x → ¬ P x) : Keep P W w' :=
  ⟨hc.os.trans h.os, hc.tape.trans h.tape, hc.output.trans h.output, Nat.le_trans h.size hc.size, h.lt, fun x hx => (hc.block x (Nat.lt_of_lt_of_le (h.lt x hx) h.size) (fun hs => hS x hs hx)).trans (h.block x hx)⟩
theorem Keep.below {P : Nat → Prop} {W w : World} {B : Nat} (h : Keep P W w) (hP : ∀ x, x < B → P x) : Below B W w := ⟨h.os, h.tape, h.output, h.size, fun x hx => h.block x (hP x hx)⟩
theorem Keep.cell {P : Nat → Prop} {W w : World} {b o : Nat} {v : Value} (h : Keep P W w) (hb : P b) (hc : W.cell? ⟨b, o, none⟩ = some v) : w.cell? ⟨b, o, none⟩ = some v := by
  rw [World.cell?_of_block (w := W) (a := ⟨b, o, none⟩) (h.block b hb)]; exact hc
def DskP (P : Nat → Prop) (W : World) (d : Nat) (k : Dk) (w1 : World) : Prop := Keep P W w1 ∧ ∃ S, DiskAt w1 d k S ∧ ∀ x, S x → ¬ P x
theorem DskP.later {P : Nat → Prop} {W w1 w2 : World} {d : Nat} {k : Dk} (h : DskP P W d k w1) (hb : Below w1.heap.size w1 w2) : DskP P W d k w2 := by
  obtain ⟨h1, S, h2, h3⟩ := h
  exact ⟨h1.later hb, S, h2.later hb, h3⟩
theorem DskP.liveLt {P : Nat → Prop} {W w1 : World} {d G : Nat} {k : Dk} (h : DskP P W d k w1) (hG : k.live G) : G < w1.heap.size := by
  obtain ⟨_, S, ⟨ms, md, vc, rc, Sf, hm, _⟩, _⟩ := h
  exact (hm.files G hG).self
theorem DskP.ext {P S : Nat → Prop} {W w1 w2 : World} (h1 : Keep P W w1) (h3 : ∀ x, S x → ¬ P x) : ∀ x, Ext S w1 w2 x → ¬ P x := fun x hx hp => by
  rcases hx with hx | hx
  · exact h3 x hx hp
  · have := h1.lt x hp; have := h1.size; omega
theorem DskP.op {P : Nat → Prop} {W w1 w2 : World} {d : Nat} {S : Nat → Prop} {r : Int × Dk} {e : Ending} (h1 : Keep P W w1) (h3 : ∀ x, S x → ¬ P x) (h : OpPost d r S w1 e w2) : e = .returned (.int .i64 r.1) ∧ DskP P W d r.2 w2 := by
  obtain ⟨rfl, h4, h5⟩ := h
  exact ⟨rfl, h1.chg h5 h3, _, h4, DskP.ext h1 h3⟩
theorem DskP.ofSt {P : Nat → Prop} {W w1 w2 : World} {d : Nat} {k : Dk} {S : Nat → Prop} (h1 : Keep P W w1) (h3 : ∀ x, S x → ¬ P x) (h : St S w1 d k w2) : DskP P W d k w2 := ⟨h1.chg h.2 h3, _, h.1, DskP.ext h1 h3⟩
/-- A disk of new memory has nothing to do with the elder blocks; nor with a block that is newer than it. -/
theorem Dsk.toP {W w1 w2 : World} {d : Nat} {k : Dk} {B : Nat} (h : Dsk W d k w1) (hb : Below w1.heap.size w1 w2) (hB : w1.heap.size ≤ B) (hB2 : B < w2.heap.size) : DskP (fun x => x < W.heap.size ∨ x = B) w2 d k w2 := by
  obtain ⟨h1, S, h2, h3⟩ := h
  have hs1 := h1.size
  have hs2 := hb.size
  refine ⟨Keep.refl (fun x hx => ?_), S, h2.later hb, fun x hx hp => ?_⟩
  · rcases hx with hx | hx <;> omega
  · have e1 := h3 x hx
    have e2 := h2.rng x hx
    rcases hp with hp | hp <;> omega
theorem DskP.back {W W' w1 : World} {d : Nat} {k : Dk} {B : Nat} (h : DskP (fun x => x < W.heap.size ∨ x = B) W' d k w1) (hb : Below W.heap.size W W') : Dsk W d k w1 := by
  obtain ⟨h1, S, h2, h3⟩ := h
  refine ⟨hb.trans (h1.below (fun x hx => .inl hx)), S, h2, fun x hx => ?_⟩
  have := h3 x hx
  by_cases hlt : x < W.heap.size
  · exact absurd (.inl hlt) this
  · omega
abbrev PPost (P : Nat → Prop) (W : World) (d : Nat) (r : Int × Dk) : Ending → World → Prop := fun e w2 => e = .returned (.int .i64 r.1) ∧ DskP P W d r.2 w2
theorem createP {P : Nat → Prop} {W w1 : World} {d n : Nat} {k : Dk} {s : ByteArray} (h : DskP P W d k w1) (hs : s.size ≤ maxLen) (hk : k.Dok n) (hn : n ≤ 4398046511103) : Calls Try.prog 21 #[.pointer (some ⟨d, 0, none⟩), .string s] w1 fun e w2 => ∃ G, w1.heap.size ≤ G ∧ PPost P W d (createK k s G) e w2 := by
  obtain ⟨h1, S, h2, h3⟩ := h
  refine (createOf d k n S s hs w1 h2 hk hn).mono ?_
  rintro e w2 ⟨G, hG, hp⟩
  exact ⟨G, hG, DskP.op h1 h3 hp⟩
theorem syncP {P : Nat → Prop} {W w1 : World} {d n : Nat} {k : Dk} {s : ByteArray} (h : DskP P W d k w1) (hs : s.size ≤ maxLen) (hk : k.Dok n) (hn : n ≤ 4398046511103) : Calls Try.prog 8 #[.pointer (some ⟨d, 0, none⟩), .string s] w1 (PPost P W d (syncK k s)) := by
  obtain ⟨h1, S, h2, h3⟩ := h
  refine (syncOf d k n S s hs w1 h2 hk.ok hn).mono ?_
  rintro e w2 hp
  exact DskP.op h1 h3 hp
theorem syncDirP {P : Nat → Prop} {W w1 : World} {d n : Nat} {k : Dk} (h : DskP P W d k w1) (hk : k.Dok n) (hn : n ≤ 4398046511103) : Calls Try.prog 9 #[.pointer (some ⟨d, 0, none⟩)] w1 (PPost P W d (syncDirK k)) := by
  obtain ⟨h1, S, h2, h3⟩ := h
  refine (syncDirOf d k n S w1 h2 hk hn).mono ?_
  rintro e w2 hp
  exact DskP.op h1 h3 hp
theorem renameP {P : Nat → Prop} {W w1 : World} {d n : Nat} {k : Dk} {s t : ByteArray} (h : DskP P W d k w1) (hs : s.size ≤ maxLen) (ht : t.size ≤ maxLen) (hk : k.Dok n) (hu : k.Uok) (hn : n ≤ 4398046511103) : Calls Try.prog 27 #[.pointer (some ⟨d, 0, none⟩), .string s, .string t] w1 (PPost P W d (renameK k s t)) := by
  obtain ⟨h1, S, h2, h3⟩ := h
  refine (renameOf d k n S s t hs ht w1 h2 hk hu hn).mono ?_
  rintro e w2 hp
  exact DskP.op h1 h3 hp
theorem truncP {P : Nat → Prop} {W w1 : World} {d n : Nat} {k : Dk} {s : ByteArray} {m : Int} (h : DskP P W d k w1) (hs : s.size ≤ maxLen) (hm : I64 m) (hk : k.Dok n) (hu : k.Uok) (hn : n ≤ 4398046511103) : Calls Try.prog 26 #[.pointer (some ⟨d, 0, none⟩), .string s, .int .i64 m] w1 (PPost P W d (truncK k s m)) := by
  obtain ⟨h1, S, h2, h3⟩ := h
  refine (truncOf d k n S s hs m hm.1 hm.2 w1 h2 hk.ok hu hn).mono ?_
  rintro e w2 hp
  exact DskP.op h1 h3 hp
theorem removeP {P : Nat → Prop} {W w1 : World} {d n : Nat} {k : Dk} {s : ByteArray} (h : DskP P W d k w1) (hs : s.size ≤ maxLen) (hk : k.Dok n) (hu : k.Uok) (hn : n ≤ 4398046511103) : Calls Try.prog 28 #[.pointer (some ⟨d, 0, none⟩), .string s] w1 (PPost P W d (removeK k s)) := by
  obtain ⟨h1, S, h2, h3⟩ := h
  refine (removeOf d k n S s hs w1 h2 hk hu hn).mono ?_
  rintro e w2 hp
  exact DskP.op h1 h3 hp
theorem sizeP {P : Nat → Prop} {W w1 : World} {d n : Nat} {k : Dk} {s : ByteArray} (h : DskP P W d k w1) (hs : s.size ≤ maxLen) (hk : k.Dok n) : Calls Try.prog 48 #[.pointer (some ⟨d, 0, none⟩), .string s] w1 fun e w2 => e = .returned (.tuple #[.int .i64 ((szK k s).1 : Int), .int .i64 (szK k s).2]) ∧ DskP P W d k w2 := by
  obtain ⟨h1, S, h2, h3⟩ := h
  refine (sizeOf (St.start h2) hk.ok s hs).mono ?_
  rintro e w2 ⟨rfl, hp⟩
  exact ⟨rfl, DskP.ofSt h1 h3 hp⟩
theorem imageP {P : Nat → Prop} {W w1 : World} {d n : Nat} {k : Dk} (h : DskP P W d k w1) (hk : k.Dok n) : Calls Try.prog 10 #[.pointer (some ⟨d, 0, none⟩)] w1 fun e w2 => ∃ a l c, e = .returned (.slice a l c) ∧ ImgAt w2 (.slice a l c) (imK k) w1.heap.size ∧ DskP P W d k w2 ∧ Below w1.heap.size w1 w2 := by
  have h0 := h
  obtain ⟨h1, S, h2, h3⟩ := h
  refine (imageAll w1 d k n S h2 hk).mono ?_
  rintro e w2 ⟨a, l, c, rfl, hi, hb⟩
  exact ⟨a, l, c, rfl, hi, h0.later hb, hb⟩
end Go.Proofs.Ytgffncbmchimdaa

/-! Two disks that are alike, up to the numbers of their files. -/
namespace Go.Proofs.Ytgffncbmchimdaa
open Go.RowKit Go.Maps Plain
set_option linter.unusedVariables false
set_option linter.unusedSimpArgs false

abbrev Rel := Nat → Nat → Prop
/-- Directories with the same names, the files of each pair alike. -/
def DirR (R : Rel) : Dir → Dir → Prop
  | [], [] => True
  | p :: L, q :: M => (p.1 = q.1 ∧ R p.2 q.2) ∧ DirR R L M
  | _, _ => False
theorem DirR.mono {R R' : Rel} (hR : ∀ a b, R a b → R' a b) : ∀ {L M : Dir}, DirR R L M → DirR R' L M
  | [], [], h => trivial
  | p :: L, q :: M, h => ⟨⟨h.1.1, hR _ _ h.1.2⟩, DirR.mono hR h.2⟩
  | [], q :: M, h => h.elim
  | p :: L, [], h => h.elim
theorem DirR.keys {R : Rel} : ∀ {L M : Dir}, DirR R L M → L.map (·.1) = M.map (·.1)
  | [], [], h => rfl
  | p :: L, q :: M, h => by rw [List.map_cons, List.map_cons, h.1.1, DirR.keys h.2]
  | [], q :: M, h => h.elim
  | p :: L, [], h => h.elim
theorem DirR.len {R : Rel} {L M : Dir} (h : DirR R L M) : L.length = M.length := by
  have := congrArg List.length h.keys
  simpa using this
/-- What the two look-ups find. -/
def LkR (R : Rel) (x y : Option Nat) : Prop := (x = none ∧ y = none) ∨ ∃ a b, x = some a ∧ y = some b ∧ R a b
theorem DirR.look {R : Rel} (k : Nm) : ∀ {L M : Dir}, DirR R L M → LkR R (look L k) (look M k)
  | [], [], h => .inl ⟨rfl, rfl⟩
  | p :: L, q :: M, h => by
    unfold Go.Proofs.Ytgffncbmchimdaa.look
    rw [List.find?_cons, List.find?_cons, ← h.1.1]
    by_cases e : p.1 = k
    · rw [show (p.1 == k) = true by simpa using e]
      exact .inr ⟨p.2, q.2, rfl, rfl, h.1.2⟩
    · rw [show (p.1 == k) = false by simpa using e]
      exact DirR.look k h.2
  | [], q :: M, h => h.elim
  | p :: L, [], h => h.elim
theorem DirR.ins {R : Rel} {k : Nm} {a b : Nat} (hab : R a b) : ∀ {L M : Dir}, DirR R L M → DirR R (ins (k, a) L) (ins (k, b) M)
  | [], [], h => ⟨⟨rfl, hab⟩, trivial⟩
  | p :: L, q :: M, h => by
    unfold Go.Proofs.Ytgffncbmchimdaa.ins
    rw [← h.1.1]
    by_cases e : (Lit.string (k, a).1).before (.string p.1) = true
    · rw [if_pos e, if_pos e]
      exact ⟨⟨rfl, hab⟩, h⟩
    · rw [if_neg e, if_neg e]
      exact ⟨h.1, DirR.ins hab h.2⟩
  | [], q :: M, h => h.elim
  | p :: L, [], h => h.elim
theorem DirR.del {R : Rel} (k : Nm) : ∀ {L M : Dir}, DirR R L M → DirR R (del L k) (del M k)
  | [], [], h => trivial
  | p :: L, q :: M, h => by
    rw [del_cons, del_cons, ← h.1.1]
    by_cases e : p.1 = k
    · rw [if_pos e, if_pos e]; exact DirR.del k h.2
    · rw [if_neg e, if_neg e]; exact ⟨h.1, DirR.del k h.2⟩
  | [], q :: M, h => h.elim
  | p :: L, [], h => h.elim
theorem DirR.put {R : Rel} {k : Nm} {a b : Nat} {L M : Dir} (h : DirR R L M) (hab : R a b) : DirR R (put L k a) (put M k b) := DirR.ins hab (h.del k)
theorem DirR.mem {R : Rel} : ∀ {L M : Dir}, DirR R L M → ∀ p ∈ L, ∃ b, R p.2 b
  | [], [], h, p, hp => by simp at hp
  | p0 :: L, q :: M, h, p, hp => by
    rcases List.mem_cons.mp hp with rfl | hp
    · exact ⟨_, h.1.2⟩
    · exact DirR.mem h.2 p hp
  | [], q :: M, h, _, _ => h.elim
  | p0 :: L, [], h, _, _ => h.elim

/-- Changes of the directory that are alike. -/
def DCR (R : Rel) (c1 c2 : DC) : Prop := (∃ k a b, c1 = DC.mk k a ∧ c2 = DC.mk k b ∧ R a b) ∨ (∃ a b, c1 = DC.mv a b ∧ c2 = DC.mv a b) ∨ ∃ k, c1 = DC.rm k ∧ c2 = DC.rm k
theorem DCR.mono {R R' : Rel} (hR : ∀ a b, R a b → R' a b) {c1 c2 : DC} (h : DCR R c1 c2) : DCR R' c1 c2 := by
  rcases h with ⟨k, a, b, h1, h2, h3⟩ | h | h
  · exact .inl ⟨k, a, b, h1, h2, hR _ _ h3⟩
  · exact .inr (.inl h)
  · exact .inr (.inr h)
theorem DCR.on {R : Rel} {c1 c2 : DC} (h : DCR R c1 c2) {L M : Dir} (hd : DirR R L M) : DirR R (DC.on L c1) (DC.on M c2) := by
  rcases h with ⟨k, a, b, rfl, rfl, h3⟩ | ⟨a, b, rfl, rfl⟩ | ⟨k, rfl, rfl⟩
  · rw [DC.on_mk, DC.on_mk]; exact hd.put h3
  · rw [DC.on_mv, DC.on_mv]
    rcases hd.look a with ⟨e1, e2⟩ | ⟨x, y, e1, e2, hxy⟩
    · rw [e1, e2]; exact hd
    · rw [e1, e2]; exact (hd.put hxy).del a
  · rw [DC.on_rm, DC.on_rm]; exact hd.del k
def CsR (R : Rel) : List DC → List DC → Prop
  | [], [] => True
  | c :: L, d :: M => DCR R c d ∧ CsR R L M
  | _, _ => False
theorem CsR.mono {R R' : Rel} (hR : ∀ a b, R a b → R' a b) : ∀ {L M : List DC}, CsR R L M → CsR R' L M
  | [], [], h => trivial
  | p :: L, q :: M, h => ⟨h.1.mono hR, CsR.mono hR h.2⟩
  | [], q :: M, h => h.elim
  | p :: L, [], h => h.elim
theorem CsR.len {R : Rel} : ∀ {L M : List DC}, CsR R L M → L.length = M.length
  | [], [], h => rfl
  | p :: L, q :: M, h => by rw [List.length_cons, List.length_cons, CsR.len h.2]
  | [], q :: M, h => h.elim
  | p :: L, [], h => h.elim
theorem CsR.snoc {R : Rel} {c d : DC} (hcd : DCR R c d) : ∀ {L M : List DC}, CsR R L M → CsR R (L ++ [c]) (M ++ [d])
  | [], [], h => ⟨hcd, trivial⟩
  | p :: L, q :: M, h => ⟨h.1, CsR.snoc hcd h.2⟩
  | [], q :: M, h => h.elim
  | p :: L, [], h => h.elim
theorem CsR.take {R : Rel} : ∀ (n : Nat) {L M : List DC}, CsR R L M → CsR R (L.take n) (M.take n)
  | 0, L, M, h => by simp only [List.take_zero]; trivial
  | n + 1, [], [], h => trivial
  | n + 1, p :: L, q :: M, h => ⟨h.1, CsR.take n h.2⟩
  | n + 1, [], q :: M, h => h.elim
  | n + 1, p :: L, [], h => h.elim
theorem CsR.dst {R : Rel} : ∀ {cs ds : List DC} {L M : Dir}, CsR R cs ds → DirR R L M → DirR R (dst L cs) (dst M ds)
  | [], [], L, M, h, hd => hd
  | c :: cs, d :: ds, L, M, h, hd => by
    show DirR R (Go.Proofs.Ytgffncbmchimdaa.dst (DC.on L c) cs) (Go.Proofs.Ytgffncbmchimdaa.dst (DC.on M d) ds)
    exact CsR.dst (cs := cs) (ds := ds) h.2 (h.1.on hd)
  | [], d :: ds, L, M, h, hd => h.elim
  | c :: cs, [], L, M, h, hd => h.elim

/-- The two disks have the same files under the same names, seen and durable, and the same changes between. -/
structure Sib (R : Rel) (k1 k2 : Dk) : Prop where
  one : ∀ a b a' b', R a b → R a' b' → (a = a' ↔ b = b')
  live : ∀ a b, R a b → k1.live a ∧ k2.live b
  file : ∀ a b, R a b → k1.file a = k2.file b
  L : DirR R k1.L k2.L
  Ld : DirR R k1.Ld k2.Ld
  chg : CsR R k1.chg k2.chg
  used : k1.used = k2.used
  quota : k1.quota = k2.quota
theorem Sib.size {R : Rel} {k1 k2 : Dk} (h : Sib R k1 k2) (s : ByteArray) : sizeK k1 s = sizeK k2 s := by
  unfold sizeK
  rcases h.L.look s.data.toList with ⟨e1, e2⟩ | ⟨a, b, e1, e2, hab⟩
  · rw [e1, e2]; rfl
  · rw [e1, e2]
    show (k1.file a).seen.length = (k2.file b).seen.length
    rw [h.file a b hab]
theorem imgL_R {σ : Type} {R : Rel} {L M : Dir} (h : DirR R L M) (B1 B2 : σ → Nat → List Nat) (n1 n2 : σ → Nat → σ) (hB : ∀ s a b, R a b → B1 s a = B2 s b ∧ n1 s a = n2 s b) : ∀ (ks : List Nm) (s : σ), (∀ k ∈ ks, k ∈ L.map (·.1)) → imgL L B1 n1 s ks = imgL M B2 n2 s ks
  | [], s, _ => rfl
  | k :: ks, s, hk => by
    obtain ⟨g, hg⟩ := look_some (hk k (by simp))
    rcases h.look k with ⟨e1, _⟩ | ⟨a, b, e1, e2, hab⟩
    · rw [hg] at e1; simp at e1
    · have f1 : fileOf L k = a := by unfold fileOf; rw [e1]; rfl
      have f2 : fileOf M k = b := by unfold fileOf; rw [e2]; rfl
      simp only [imgL, f1, f2]
      rw [(hB s a b hab).1, (hB s a b hab).2, imgL_R h B1 B2 n1 n2 hB ks _ (fun x hx => hk x (by simp [hx]))]
theorem nms_R {R : Rel} {L M : Dir} (h : DirR R L M) : nms L = nms M := by unfold nms; rw [h.keys]
theorem Sib.image {R : Rel} {k1 k2 : Dk} (h : Sib R k1 k2) : imK k1 = imK k2 := by
  unfold imK
  rw [← nms_R h.L]
  exact imgL_R h.L _ _ _ _ (fun s a b hab => ⟨by rw [h.file a b hab], rfl⟩) _ _ (fun k hk => nms_mem.mp hk)
theorem Sib.crash {R : Rel} {k1 k2 : Dk} (h : Sib R k1 k2) (ps : List Int) : crK k1 ps = crK k2 ps := by
  unfold crK
  have hL : DirR R (crL k1 ps) (crL k2 ps) := by
    unfold crL
    rw [← h.chg.len]
    exact (h.chg.take _).dst h.Ld
  rw [← nms_R hL]
  exact imgL_R hL _ _ _ _ (fun s a b hab => ⟨by rw [h.file a b hab], by rw [h.file a b hab]⟩) _ _ (fun k hk => nms_mem.mp hk)
/-- A file of both has turned, in the same way. -/
theorem Sib.setFile {R : Rel} {k1 k2 : Dk} (h : Sib R k1 k2) {a b : Nat} (hab : R a b) (f : Fl) (u : Int) : Sib R ((k1.setFile a f).uses u) ((k2.setFile b f).uses u) := by
  refine ⟨h.one, h.live, fun x y hxy => ?_, h.L, h.Ld, h.chg, rfl, h.quota⟩
  show upd k1.file a f x = upd k2.file b f y
  by_cases e : x = a
  · have e2 : y = b := (h.one x y a b hxy hab).mp e
    rw [e, e2, upd_same, upd_same]
  · have e2 : y ≠ b := fun e2 => e ((h.one x y a b hxy hab).mpr e2)
    rw [upd_other _ _ _ _ e, upd_other _ _ _ _ e2]
    exact h.file x y hxy
theorem Sib.did {R : Rel} {k1 k2 : Dk} (h : Sib R k1 k2) {c1 c2 : DC} (hc : DCR R c1 c2) (u : Int) : Sib R ((k1.uses u).did c1) ((k2.uses u).did c2) :=
  ⟨h.one, h.live, h.file, hc.on h.L, h.Ld, CsR.snoc hc h.chg, rfl, h.quota⟩
theorem Sib.settled {R : Rel} {k1 k2 : Dk} (h : Sib R k1 k2) : Sib R k1.settled k2.settled := ⟨h.one, h.live, h.file, h.L, h.L, trivial, h.used, h.quota⟩
theorem Sib.spent {R : Rel} {k1 k2 : Dk} (h : Sib R k1 k2) : Sib R k1.spent k2.spent := ⟨h.one, h.live, h.file, h.L, h.Ld, h.chg, h.used, h.quota⟩
theorem Sib.spentL {R : Rel} {k1 k2 : Dk} (h : Sib R k1 k2) : Sib R k1 k2.spent := ⟨h.one, h.live, h.file, h.L, h.Ld, h.chg, h.used, h.quota⟩
theorem Sib.find {R : Rel} {k1 k2 : Dk} (h : Sib R k1 k2) (hd : k1.dead = k2.dead) (s : ByteArray) : (fnd k1.dead k1.L s).2 = (fnd k2.dead k2.L s).2 := by
  unfold fnd
  rw [hd]
  cases k2.dead with
  | true => rfl
  | false =>
    cases nmL s.data.toList with
    | false => rfl
    | true =>
      rcases h.L.look s.data.toList with ⟨e1, e2⟩ | ⟨a, b, e1, e2, hab⟩
      · rw [e1, e2]
      · rw [e1, e2]; rfl
/-- A new file of both. -/
theorem Sib.addFile {R : Rel} {k1 k2 : Dk} (h : Sib R k1 k2) {a b : Nat} (ha : ¬ k1.live a) (hb : ¬ k2.live b) : Sib (fun x y => R x y ∨ (x = a ∧ y = b)) (k1.addFile a) (k2.addFile b) := by
  have hm : ∀ x y, R x y → (R x y ∨ (x = a ∧ y = b)) := fun _ _ h => .inl h
  refine ⟨fun x y x' y' h1 h2 => ?_, fun x y hxy => ?_, fun x y hxy => ?_, h.L.mono hm, h.Ld.mono hm, h.chg.mono hm, h.used, h.quota⟩
  · rcases h1 with h1 | ⟨rfl, rfl⟩
    · rcases h2 with h2 | ⟨rfl, rfl⟩
      · exact h.one _ _ _ _ h1 h2
      · exact ⟨fun e => absurd (by rw [← e]; exact (h.live _ _ h1).1) ha, fun e => absurd (by rw [← e]; exact (h.live _ _ h1).2) hb⟩
    · rcases h2 with h2 | ⟨rfl, rfl⟩
      · exact ⟨fun e => absurd (by rw [e]; exact (h.live _ _ h2).1) ha, fun e => absurd (by rw [e]; exact (h.live _ _ h2).2) hb⟩
      · exact ⟨fun _ => rfl, fun _ => rfl⟩
  · rcases hxy with hxy | ⟨rfl, rfl⟩
    · exact ⟨.inl (h.live _ _ hxy).1, .inl (h.live _ _ hxy).2⟩
    · exact ⟨.inr rfl, .inr rfl⟩
  · show upd k1.file a ⟨[], [], []⟩ x = upd k2.file b ⟨[], [], []⟩ y
    rcases hxy with hxy | ⟨rfl, rfl⟩
    · rw [upd_other _ _ _ _ (fun e => ha (by rw [← e]; exact (h.live _ _ hxy).1)), upd_other _ _ _ _ (fun e => hb (by rw [← e]; exact (h.live _ _ hxy).2))]
      exact h.file _ _ hxy
    · rw [upd_same, upd_same]
end Go.Proofs.Ytgffncbmchimdaa

/-! Alike disks stay alike. -/
namespace Go.Proofs.Ytgffncbmchimdaa
open Go.RowKit Go.Maps Plain
set_option linter.unusedVariables false
set_option linter.unusedSimpArgs false

/-- Both answer the same, and stay alike. -/
def AlikeR (R : Rel) (x y : Int × Dk) : Prop := x.1 = y.1 ∧ ∃ R', Sib R' x.2 y.2
theorem Sib.same {R : Rel} {k1 k2 : Dk} (h : Sib R k1 k2) (e : Int) : AlikeR R (e, k1) (e, k2) := ⟨rfl, R, h⟩
theorem uses_self (k : Dk) : k.uses k.used = k := rfl

theorem create_R {R : Rel} {k1 k2 : Dk} {a b : Nat} {s : ByteArray} (h : Sib R k1 k2) (hd : k1.dead = k2.dead) (hc : k1.can = true) (hc2 : k2.can = true) (ha : ¬ k1.live a) (hb : ¬ k2.live b) : AlikeR R (createK k1 s a) (createK k2 s b) := by
  unfold createK
  rw [hd, h.L.len, hc, hc2]
  have hl : (look k1.L s.data.toList).isSome = (look k2.L s.data.toList).isSome := by
    rcases h.L.look s.data.toList with ⟨e1, e2⟩ | ⟨x, y, e1, e2, _⟩ <;> rw [e1, e2]
    rfl
  rw [hl]
  split
  · exact h.same _
  · split
    · exact h.same _
    · split
      · exact h.same _
      · rw [if_pos rfl, if_pos rfl]
        have h1 := (h.spent.addFile (a := a) (b := b) ha hb).did (c1 := DC.mk s.data.toList a) (c2 := DC.mk s.data.toList b) (.inl ⟨_, _, _, rfl, rfl, .inr ⟨rfl, rfl⟩⟩) k1.used
        refine ⟨rfl, (fun x y => R x y ∨ (x = a ∧ y = b)), ?_⟩
        have e2 : (k2.spent.addFile b).uses k1.used = k2.spent.addFile b := by rw [h.used]; rfl
        rw [e2] at h1
        exact h1
theorem append_R {R : Rel} {k1 k2 : Dk} {s : ByteArray} {l : List Nat} (h : Sib R k1 k2) (hd : k1.dead = k2.dead) (hc : k1.can = true) (hc2 : k2.can = true) : AlikeR R (appendK k1 s l) (appendK k2 s l) := by
  unfold appendK
  rw [h.find hd, h.used, h.quota, hc, hc2]
  split
  · split
    · exact h.same _
    · rcases h.L.look s.data.toList with ⟨e1, e2⟩ | ⟨a, b, e1, e2, hab⟩
      · rw [e1, e2]; exact h.same _
      · rw [e1, e2]
        have := h.spent.setFile hab ((k1.file a).add l) (k2.used + l.length)
        refine ⟨rfl, R, ?_⟩
        simp only [if_true]
        rw [← h.file a b hab]
        exact this
  · exact h.same _
theorem trunc_R {R : Rel} {k1 k2 : Dk} {s : ByteArray} {m : Int} (h : Sib R k1 k2) (hd : k1.dead = k2.dead) (hc : k1.can = true) (hc2 : k2.can = true) : AlikeR R (truncK k1 s m) (truncK k2 s m) := by
  unfold truncK
  rw [h.find hd, h.used, hc, hc2]
  split
  · rcases h.L.look s.data.toList with ⟨e1, e2⟩ | ⟨a, b, e1, e2, hab⟩
    · rw [e1, e2]; exact h.same _
    · rw [e1, e2]
      simp only [if_true]
      rw [h.file a b hab]
      split
      · exact h.same _
      · have := h.spent.setFile hab ((k2.file b).trim m.toNat) (k2.used - ((k2.file b).seen.length - m))
        exact ⟨rfl, R, this⟩
  · exact h.same _
theorem sync_R {R : Rel} {k1 k2 : Dk} {s : ByteArray} (h : Sib R k1 k2) (hd : k1.dead = k2.dead) (hc : k1.can = true) (hc2 : k2.can = true) : AlikeR R (syncK k1 s) (syncK k2 s) := by
  unfold syncK
  rw [h.find hd, hc, hc2]
  split
  · rcases h.L.look s.data.toList with ⟨e1, e2⟩ | ⟨a, b, e1, e2, hab⟩
    · rw [e1, e2]; exact h.same _
    · rw [e1, e2]
      simp only [if_true]
      rw [h.file a b hab]
      have := h.spent.setFile hab ⟨(k2.file b).seen, (k2.file b).seen, []⟩ k1.used
      have e2' : (k2.spent.setFile b ⟨(k2.file b).seen, (k2.file b).seen, []⟩).uses k1.used = k2.spent.setFile b ⟨(k2.file b).seen, (k2.file b).seen, []⟩ := by rw [h.used]; rfl
      rw [e2'] at this
      exact ⟨rfl, R, this⟩
  · exact h.same _
theorem syncDir_R {R : Rel} {k1 k2 : Dk} (h : Sib R k1 k2) (hd : k1.dead = k2.dead) (hc : k1.can = true) (hc2 : k2.can = true) : AlikeR R (syncDirK k1) (syncDirK k2) := by
  unfold syncDirK
  rw [hd, hc, hc2]
  split
  · exact h.same _
  · rw [if_pos rfl, if_pos rfl]
    exact ⟨rfl, R, h.spent.settled⟩
theorem rename_R {R : Rel} {k1 k2 : Dk} {s t : ByteArray} (h : Sib R k1 k2) (hd : k1.dead = k2.dead) (hc : k1.can = true) (hc2 : k2.can = true) : AlikeR R (renameK k1 s t) (renameK k2 s t) := by
  unfold renameK
  rw [h.find hd, hd, h.used, h.size t, hc, hc2]
  split
  · exact h.same _
  · split
    · exact h.same _
    · split
      · rw [if_pos rfl, if_pos rfl]
        exact ⟨rfl, R, h.spent.did (.inr (.inl ⟨_, _, rfl, rfl⟩)) _⟩
      · exact h.same _
theorem remove_R {R : Rel} {k1 k2 : Dk} {s : ByteArray} (h : Sib R k1 k2) (hd : k1.dead = k2.dead) (hc : k1.can = true) (hc2 : k2.can = true) : AlikeR R (removeK k1 s) (removeK k2 s) := by
  unfold removeK
  rw [h.find hd, h.used, h.size s, hc, hc2]
  split
  · rw [if_pos rfl, if_pos rfl]
    exact ⟨rfl, R, h.spent.did (.inr (.inr ⟨_, rfl, rfl⟩)) _⟩
  · exact h.same _
theorem chK_R {R : Rel} {k1 k2 : Dk} {a b : Nat} {kd m : Int} {nm to : ByteArray} {l : List Nat} (h : Sib R k1 k2) (hd : k1.dead = k2.dead) (hc : k1.can = true) (hc2 : k2.can = true) (ha : ¬ k1.live a) (hb : ¬ k2.live b) : AlikeR R (chK k1 kd nm to m l a) (chK k2 kd nm to m l b) := by
  unfold chK
  split
  · exact create_R h hd hc hc2 ha hb
  · split
    · exact append_R h hd hc hc2
    · split
      · exact trunc_R h hd hc hc2
      · split
        · exact sync_R h hd hc hc2
        · split
          · exact syncDir_R h hd hc hc2
          · split
            · exact rename_R h hd hc hc2
            · exact remove_R h hd hc hc2
/-- Two disks that have begun are alike. -/
theorem bg_R (q : Int) (a b : Nat) : ∃ R, Sib R (bg q a) (bg q b) := by
  have key : ∀ (x y : Dk), (∀ f : Fl, x.L = [(kF, a)] → True) → True := fun _ _ _ => trivial
  unfold bg
  split
  · refine ⟨fun x y => x = a ∧ y = b, fun x y x' y' h1 h2 => ?_, fun x y h => ?_, fun x y h => ?_, ⟨⟨rfl, rfl, rfl⟩, trivial⟩, trivial, ⟨.inl ⟨_, _, _, rfl, rfl, rfl, rfl⟩, trivial⟩, rfl, rfl⟩
    · obtain ⟨rfl, rfl⟩ := h1; obtain ⟨rfl, rfl⟩ := h2; exact ⟨fun _ => rfl, fun _ => rfl⟩
    · obtain ⟨rfl, rfl⟩ := h; exact ⟨.inr rfl, .inr rfl⟩
    · obtain ⟨rfl, rfl⟩ := h
      show upd F0 x ⟨[], [], []⟩ x = upd F0 y ⟨[], [], []⟩ y
      rw [upd_same, upd_same]
  · refine ⟨fun x y => x = a ∧ y = b, fun x y x' y' h1 h2 => ?_, fun x y h => ?_, fun x y h => ?_, ⟨⟨rfl, rfl, rfl⟩, trivial⟩, trivial, ⟨.inl ⟨_, _, _, rfl, rfl, rfl, rfl⟩, trivial⟩, rfl, rfl⟩
    · obtain ⟨rfl, rfl⟩ := h1; obtain ⟨rfl, rfl⟩ := h2; exact ⟨fun _ => rfl, fun _ => rfl⟩
    · obtain ⟨rfl, rfl⟩ := h; exact ⟨.inr rfl, .inr rfl⟩
    · obtain ⟨rfl, rfl⟩ := h
      show upd (upd F0 x ⟨[], [], []⟩) x ⟨[7], [], [FC.add [7]]⟩ x = upd (upd F0 y ⟨[], [], []⟩) y ⟨[7], [], [FC.add [7]]⟩ y
      rw [upd_same, upd_same]
end Go.Proofs.Ytgffncbmchimdaa

/-! Of past directories; disks whose power goes, or is off. -/
namespace Go.Proofs.Ytgffncbmchimdaa
open Go.RowKit Go.Maps Plain
set_option linter.unusedVariables false
set_option linter.unusedSimpArgs false

/-- The files of the past directories are there. -/
structure Dk.Past (k : Dk) : Prop where
  ld : ∀ p ∈ k.Ld, k.live p.2
  made : ∀ nm g, DC.mk nm g ∈ k.chg → k.live g
  few : k.Ld.length ≤ 65536
theorem on_mem {L : Dir} {c : DC} {p : Nm × Nat} (h : p ∈ DC.on L c) : p ∈ L ∨ (∃ nm, c = DC.mk nm p.2) ∨ ∃ q ∈ L, q.2 = p.2 := by
  cases c using DC.elim with
  | mk k g =>
    rw [DC.on_mk] at h
    rcases mem_put h with rfl | h
    · exact .inr (.inl ⟨k, rfl⟩)
    · exact .inl h
  | mv a b =>
    rw [DC.on_mv] at h
    cases e : look L a with
    | none => rw [e] at h; exact .inl h
    | some g =>
      rw [e] at h
      rcases mem_put (mem_del h) with rfl | h
      · exact .inr (.inr ⟨_, look_mem e, rfl⟩)
      · exact .inl h
  | rm k =>
    rw [DC.on_rm] at h
    exact .inl (mem_del h)
theorem dst_live {lv : Nat → Prop} : ∀ (cs : List DC) (L : Dir), (∀ p ∈ L, lv p.2) → (∀ nm g, DC.mk nm g ∈ cs → lv g) → ∀ p ∈ dst L cs, lv p.2
  | [], L, h1, h2, p, hp => h1 p hp
  | c :: cs, L, h1, h2, p, hp => dst_live cs (DC.on L c) (fun q hq => by
      rcases on_mem hq with h | ⟨nm, h⟩ | ⟨r, hr, e⟩
      · exact h1 q h
      · exact h2 nm q.2 (by rw [← h]; simp)
      · rw [← e]; exact h1 r hr) (fun nm g hg => h2 nm g (List.mem_cons_of_mem _ hg)) p hp
theorem on_len (L : Dir) (c : DC) : (DC.on L c).length ≤ L.length + 1 := by
  cases c using DC.elim with
  | mk k g => rw [DC.on_mk]; exact len_put _ _ _
  | mv a b =>
    rw [DC.on_mv]
    cases e : look L a with
    | none => show L.length ≤ _; omega
    | some g =>
      show (del (put L b g) a).length ≤ _
      have h1 := len_del (put L b g) a
      have h2 := len_put L b g
      omega
  | rm k => rw [DC.on_rm]; have := len_del L k; omega
theorem dst_len : ∀ (cs : List DC) (L : Dir), (dst L cs).length ≤ L.length + cs.length
  | [], L => by show L.length ≤ _; simp
  | c :: cs, L => by
    have h1 := dst_len cs (DC.on L c)
    have h2 := on_len L c
    show (dst (DC.on L c) cs).length ≤ _
    rw [List.length_cons]
    omega
theorem Dk.Past.crash {k : Dk} {n : Nat} (h : k.Past) (hd : k.Dok n) (hn : n ≤ 2000000000000) (ps : List Int) : (∀ p ∈ crL k ps, k.live p.2) ∧ (crL k ps).length ≤ 2199023255000 := by
  refine ⟨dst_live _ _ h.ld (fun nm g hg => h.made nm g (List.mem_of_mem_take hg)), ?_⟩
  have h1 := dst_len (k.chg.take (upV ps k.chg.length)) k.Ld
  have h2 := h.few
  have h3 := hd.cnt
  have h4 : (k.chg.take (upV ps k.chg.length)).length ≤ k.chg.length := by rw [List.length_take]; omega
  unfold crL
  omega
theorem Dk.Past.chK {k : Dk} {n G : Nat} {kd m : Int} {nm to : ByteArray} {l : List Nat} (h : k.Past) (hd : k.Dok n) : (chK k kd nm to m l G).2.Past := by
  have same : ∀ k' : Dk, k'.Ld = k.Ld → k'.chg = k.chg → k'.live = k.live → k'.Past := fun k' e1 e2 e3 => ⟨by rw [e1, e3]; exact h.ld, by rw [e2, e3]; exact h.made, by rw [e1]; exact h.few⟩
  have did : ∀ (k' : Dk) (c : DC), k'.Ld = k.Ld → k'.chg = k.chg ++ [c] → k'.live = k.live → (∀ nm g, c ≠ DC.mk nm g) → k'.Past := fun k' c e1 e2 e3 hc => ⟨by rw [e1, e3]; exact h.ld, fun nm g hg => by
    rw [e2] at hg
    rcases List.mem_append.mp hg with hg | hg
    · rw [e3]; exact h.made nm g hg
    · simp at hg; exact absurd hg.symm (hc nm g), by rw [e1]; exact h.few⟩
  unfold Go.Proofs.Ytgffncbmchimdaa.chK
  split
  · unfold createK
    split
    · exact h
    · split
      · exact h
      · split
        · exact h
        · split
          · refine ⟨fun p hp => .inl (h.ld p hp), fun nm' g hg => ?_, h.few⟩
            have hg' : DC.mk nm' g ∈ k.chg ++ [DC.mk nm.data.toList G] := hg
            rcases List.mem_append.mp hg' with hg | hg
            · exact .inl (h.made nm' g hg)
            · simp at hg
              have e : (nm', g) = (nm.data.toList, G) := Sum.inl.inj hg
              exact .inr (by simpa using (Prod.mk.inj e).2)
          · exact same _ rfl rfl rfl
  · split
    · unfold appendK
      split
      · split
        · exact h
        · split
          · split
            · exact same _ rfl rfl rfl
            · exact same _ rfl rfl rfl
          · exact h
      · exact h
    · split
      · unfold truncK
        split
        · split
          · split
            · exact h
            · split
              · exact same _ rfl rfl rfl
              · exact same _ rfl rfl rfl
          · exact h
        · exact h
      · split
        · unfold syncK
          split
          · split
            · split
              · exact same _ rfl rfl rfl
              · exact same _ rfl rfl rfl
            · exact h
          · exact h
        · split
          · unfold syncDirK
            split
            · exact h
            · split
              · exact ⟨hd.ok.refs, (fun nm g hg => absurd hg (by intro hh; exact (List.not_mem_nil hh).elim)), hd.few⟩
              · exact same _ rfl rfl rfl
          · split
            · unfold renameK
              split
              · exact h
              · split
                · exact h
                · split
                  · split
                    · exact did _ _ rfl rfl rfl (fun _ _ e => by cases e)
                    · exact same _ rfl rfl rfl
                  · exact h
            · unfold removeK
              split
              · split
                · exact did _ _ rfl rfl rfl (fun _ _ e => by cases e)
                · exact same _ rfl rfl rfl
              · exact h
theorem bg_past (q : Int) (G : Nat) : (bg q G).Past := by
  unfold bg
  split
  · refine ⟨by simp [e1], fun nm g hg => ?_, by simp [e1]⟩
    have hg' : DC.mk nm g ∈ [DC.mk kF G] := hg
    simp at hg'
    have e : (nm, g) = (kF, G) := Sum.inl.inj hg'
    exact .inr (Prod.mk.inj e).2
  · refine ⟨by simp [e2], fun nm g hg => ?_, by simp [e2]⟩
    have hg' : DC.mk nm g ∈ [DC.mk kF G] := hg
    simp at hg'
    have e : (nm, g) = (kF, G) := Sum.inl.inj hg'
    exact .inr (Prod.mk.inj e).2

/-- A disk without power refuses every change. -/
theorem chK_dead {k : Dk} {G : Nat} {kd m : Int} {nm to : ByteArray} {l : List Nat} (h : k.dead = true) : chK k kd nm to m l G = (34, k) := by
  have h1 : ∀ ns, rdy k.dead ns = 34 := fun ns => by unfold rdy; rw [h]; rfl
  have h2 : ∀ s, (fnd k.dead k.L s).2 = 34 := fun s => by unfold fnd; rw [h]; rfl
  have c1 : createK k nm G = (34, k) := by unfold createK; rw [h1, if_pos (by simp)]
  have c2 : appendK k nm l = (34, k) := by unfold appendK; rw [if_neg (by rw [h2]; simp), h2]
  have c3 : truncK k nm m = (34, k) := by unfold truncK; rw [if_neg (by rw [h2]; simp), h2]
  have c4 : syncK k nm = (34, k) := by unfold syncK; rw [if_neg (by rw [h2]; simp), h2]
  have c5 : syncDirK k = (34, k) := by unfold syncDirK; rw [if_pos h]
  have c6 : renameK k nm to = (34, k) := by unfold renameK; rw [h1, if_pos (by simp)]
  have c7 : removeK k nm = (34, k) := by unfold removeK; rw [if_neg (by rw [h2]; simp), h2]
  unfold chK
  rw [c1, c2, c3, c4, c5, c6, c7]
  repeat' split
  all_goals rfl
/-- Of a change that a disk with power does, the same disk, whose fuse is at its end, loses its power; what is refused there is refused here. -/
theorem chK_stuck {R : Rel} {k1 k2 : Dk} {a b : Nat} {kd m : Int} {nm to : ByteArray} {l : List Nat} (h : Sib R k1 k2) (hd : k1.dead = k2.dead) (h1 : k1.dead = false) (hc : k1.can = true) (hc2 : k2.can = false) :
    ((chK k1 kd nm to m l a).1 = 0 → chK k2 kd nm to m l b = (34, k2.spent)) ∧ ((chK k1 kd nm to m l a).1 ≠ 0 → chK k2 kd nm to m l b = ((chK k1 kd nm to m l a).1, k2) ∧ (chK k1 kd nm to m l a).2 = k1) := by
  have hf := fun s => h.find hd s
  have hl : ∀ s, (look k1.L s).isSome = (look k2.L s).isSome := fun s => by
    rcases h.L.look s with ⟨e1, e2⟩ | ⟨x, y, e1, e2, _⟩ <;> rw [e1, e2]
    rfl
  unfold chK
  split
  · unfold createK
    rw [← hd, ← hl, ← h.L.len, hc, hc2]
    split
    · exact ⟨fun e => by contradiction, fun _ => ⟨rfl, rfl⟩⟩
    · split
      · exact ⟨fun e => by simp at e, fun _ => ⟨rfl, rfl⟩⟩
      · split
        · exact ⟨fun e => by simp at e, fun _ => ⟨rfl, rfl⟩⟩
        · exact ⟨fun _ => rfl, fun e => absurd rfl e⟩
  · split
    · unfold appendK
      rw [← hf, ← h.used, ← h.quota, hc, hc2]
      split
      · split
        · exact ⟨fun e => by simp at e, fun _ => ⟨rfl, rfl⟩⟩
        · rcases h.L.look nm.data.toList with ⟨e1, e2⟩ | ⟨x, y, e1, e2, _⟩
          · rw [e1, e2]; exact ⟨fun e => by simp at e, fun _ => ⟨rfl, rfl⟩⟩
          · rw [e1, e2]; exact ⟨fun _ => rfl, fun e => absurd rfl e⟩
      · exact ⟨fun e => by contradiction, fun _ => ⟨rfl, rfl⟩⟩
    · split
      · unfold truncK
        rw [← hf, hc, hc2]
        split
        · rcases h.L.look nm.data.toList with ⟨e1, e2⟩ | ⟨x, y, e1, e2, hxy⟩
          · rw [e1, e2]; exact ⟨fun e => by simp at e, fun _ => ⟨rfl, rfl⟩⟩
          · rw [e1, e2]
            simp only
            rw [h.file x y hxy]
            split
            · exact ⟨fun e => by simp at e, fun _ => ⟨rfl, rfl⟩⟩
            · exact ⟨fun _ => rfl, fun e => absurd rfl e⟩
        · exact ⟨fun e => by contradiction, fun _ => ⟨rfl, rfl⟩⟩
      · split
        · unfold syncK
          rw [← hf, hc, hc2]
          split
          · rcases h.L.look nm.data.toList with ⟨e1, e2⟩ | ⟨x, y, e1, e2, hxy⟩
            · rw [e1, e2]; exact ⟨fun e => by simp at e, fun _ => ⟨rfl, rfl⟩⟩
            · rw [e1, e2]; exact ⟨fun _ => rfl, fun e => absurd rfl e⟩
          · exact ⟨fun e => by contradiction, fun _ => ⟨rfl, rfl⟩⟩
        · split
          · unfold syncDirK
            rw [← hd, h1, hc, hc2]
            exact ⟨fun _ => rfl, fun e => absurd rfl e⟩
          · split
            · unfold renameK
              rw [← hf, ← hd, hc, hc2]
              split
              · exact ⟨fun e => by contradiction, fun _ => ⟨rfl, rfl⟩⟩
              · split
                · exact ⟨fun e => by simp at e, fun _ => ⟨rfl, rfl⟩⟩
                · split
                  · exact ⟨fun _ => rfl, fun e => absurd rfl e⟩
                  · exact ⟨fun e => by contradiction, fun _ => ⟨rfl, rfl⟩⟩
            · unfold removeK
              rw [← hf, hc, hc2]
              split
              · exact ⟨fun _ => rfl, fun e => absurd rfl e⟩
              · exact ⟨fun e => by contradiction, fun _ => ⟨rfl, rfl⟩⟩
end Go.Proofs.Ytgffncbmchimdaa

/-! Images that are held against each other; what a disk without power answers. -/
namespace Go.Proofs.Ytgffncbmchimdaa
open Go.RowKit Go.Maps Plain
set_option linter.unusedVariables false
set_option linter.unusedSimpArgs false

/-- v is a slice of files that reads as im. -/
def ImR (w : World) (v : Value) (im : List (Nm × List Nat)) : Prop := ∃ a cap, v = .slice a im.length cap ∧ im.length ≤ cap ∧ cap ≤ 2 ^ 63 - 1 ∧ (im ≠ [] → ∃ b, a = some ⟨b, 0, none⟩ ∧ ∀ j k l, im[j]? = some (k, l) → ∃ ad nd cd, w.cell? ⟨b, j * 2, none⟩ = some (.string (str k)) ∧ w.cell? ⟨b, j * 2 + 1, none⟩ = some (.slice ad nd cd) ∧ BytesAt w (.slice ad nd cd) l)
theorem ImgAt.read {w : World} {v : Value} {im : List (Nm × List Nat)} {base : Nat} (h : ImgAt w v im base) : ImR w v im := by
  obtain ⟨ts, r, blk, hm⟩ := h
  have hl := hm.len
  rcases hm.row with ⟨rfl, rfl, _⟩ | ⟨g, cap, hr, rfl, hg, h1, h2, h3, h4, h5⟩
  · have : im = [] := List.eq_nil_of_length_eq_zero (by simpa using hl.symm)
    subst this
    exact ⟨none, 0, rfl, by simp, by omega, by simp⟩
  · unfold maxLen at h2
    refine ⟨_, cap, by rw [hl], by omega, by omega, fun _ => ⟨g, rfl, fun j k l hj => ?_⟩⟩
    have hjl := (List.getElem?_eq_some_iff.mp hj).1
    obtain ⟨dv, e1, ho⟩ := hm.one j (k, l) hj
    have hrow := hm.row
    rw [hr] at hrow
    obtain ⟨c0, c1⟩ := hrow.at (j := j) (by omega)
    have e2 : ts.getD j Fi.none = ⟨str k, dv⟩ := by simp [List.getD_eq_getElem?_getD, e1]
    rw [e2] at c0 c1
    obtain ⟨a', n', c', rfl⟩ := isSliceO ho
    exact ⟨a', n', c', c0, c1, ho.bytes⟩
/-- An image stays while its own blocks stay. -/
theorem ImgAt.hold {u w : World} {v : Value} {im : List (Nm × List Nat)} {lo : Nat} (h : ImgAt u v im lo) (hs : u.heap.size ≤ w.heap.size) (hb : ∀ x, lo ≤ x → x < u.heap.size → w.heap[x]? = u.heap[x]?) : ImgAt w v im lo := by
  obtain ⟨ts, r, blk, hm⟩ := h
  have hrow : OwnI w v ts r := by
    rcases hm.row with h0 | ⟨g, cap, rfl, rfl, hg, h1, h2, h3, h4, h5⟩
    · exact .inl h0
    · have e := hb g (hm.rbase g rfl) hg
      refine .inr ⟨g, cap, rfl, rfl, Nat.lt_of_lt_of_le hg hs, h1, h2, fun j hj => ?_, fun j hj => ?_, fun j hj => ?_⟩
      · rw [World.frozen?_of_block (w := u) (a := ⟨g, j, none⟩) e]; exact h3 j hj
      · rw [World.cell?_of_block (w := u) (a := ⟨g, j, none⟩) e]; exact h4 j hj
      · rw [World.cell?_of_block (w := u) (a := ⟨g, j, none⟩) e]; exact h5 j hj
  exact ⟨ts, r, blk, hrow, hm.len, fun j p hp => by
    obtain ⟨dv, e1, ho⟩ := hm.one j p hp
    exact ⟨dv, e1, ho.of_block hs (fun g e => hb g (hm.bbase j g e).1 (hm.live e))⟩, hm.rbase, hm.bbase, hm.out, hm.apart⟩

set_option maxHeartbeats 4000000 in
set_option maxRecDepth 1000000 in
theorem sameImageEq (v1 v2 : Value) (im : List (Nm × List Nat)) (w : World) (h1 : ImR w v1 im) (h2 : ImR w v2 im) : Calls Try.prog 11 #[v1, v2] w fun e w' => e = .returned (.bool true) ∧ Below w.heap.size w w' := by
  obtain ⟨a1, c1, rfl, p1, p2, p3⟩ := h1
  obtain ⟨a2, c2, rfl, q1, q2, q3⟩ := h2
  have HP3 : Hid (im ≠ [] → ∃ b, a1 = some ⟨b, 0, none⟩ ∧ ∀ j k l, im[j]? = some (k, l) → ∃ ad nd cd, w.cell? ⟨b, j * 2, none⟩ = some (.string (str k)) ∧ w.cell? ⟨b, j * 2 + 1, none⟩ = some (.slice ad nd cd) ∧ BytesAt w (.slice ad nd cd) l) := p3
  have HQ3 : Hid (im ≠ [] → ∃ b, a2 = some ⟨b, 0, none⟩ ∧ ∀ j k l, im[j]? = some (k, l) → ∃ ad nd cd, w.cell? ⟨b, j * 2, none⟩ = some (.string (str k)) ∧ w.cell? ⟨b, j * 2 + 1, none⟩ = some (.slice ad nd cd) ∧ BytesAt w (.slice ad nd cd) l) := q3
  clear p3 q3
  go_enter Try.func11, Try.ntmps11
  go_wp2
  go_loopg [5] im.length (fun gk s5 wx => ∃ (i n : Nat), i + gk = im.length ∧ s5 = .int .i64 i ∧ wx = w.drewN n)
  case atStart => exact ⟨0, 0, by omega, rfl, rfl⟩
  case round =>
    obtain ⟨i, n, hi, rfl, hwr⟩ := hrel
    have HWR : Hid (wr = w.drewN n) := hwr
    clear hwr
    cases gk with
    | zero =>
      obtain rfl : i = im.length := by omega
      go_wp2
      go_ret
      exact ⟨rfl, by rw [HWR.out]; exact below_drewN' w n⟩
    | succ gk1 =>
      have hil : i < im.length := by omega
      have hne : im ≠ [] := by rintro rfl; simp at hil
      obtain ⟨⟨k, l⟩, hkl⟩ : ∃ p, im[i]? = some p := ⟨_, List.getElem?_eq_getElem hil⟩
      obtain ⟨b1, rfl, f1⟩ := HP3.out hne
      obtain ⟨b2, rfl, f2⟩ := HQ3.out hne
      obtain ⟨ad1, nd1, cd1, g1', g2', g3'⟩ := f1 i k l hkl
      obtain ⟨ad2, nd2, cd2, g4', g5', g6'⟩ := f2 i k l hkl
      have g1 : wr.cell? ⟨b1, i * 2, none⟩ = some (.string (str k)) := by rw [HWR.out]; exact g1'
      have g2 : wr.cell? ⟨b1, i * 2 + 1, none⟩ = some (.slice ad1 nd1 cd1) := by rw [HWR.out]; exact g2'
      have g3 : BytesAt wr (.slice ad1 nd1 cd1) l := by rw [HWR.out]; exact g3'.drewN n
      have g4 : wr.cell? ⟨b2, i * 2, none⟩ = some (.string (str k)) := by rw [HWR.out]; exact g4'
      have g5 : wr.cell? ⟨b2, i * 2 + 1, none⟩ = some (.slice ad2 nd2 cd2) := by rw [HWR.out]; exact g5'
      have g6 : BytesAt wr (.slice ad2 nd2 cd2) l := by rw [HWR.out]; exact g6'.drewN n
      clear g1' g2' g3' g4' g5' g6'
      have HSM : Hid (∀ nn, Calls Try.prog 38 #[.slice ad1 nd1 cd1, .slice ad2 nd2 cd2] (wr.drewN nn) fun e w' => e = .returned (.bool true) ∧ ∃ m, w' = (wr.drewN nn).drewN m) := fun nn => by
        have := sameBytes _ _ l l (wr.drewN nn) (g3.drewN nn) (g6.drewN nn)
        rw [decide_eq_true (rfl : l = l)] at this
        exact this
      have hsk : decide (str k ≠ str k) = false := by simp
      clear f1 f2 g3 g6 hkl hne
      generalize str k = sk at *
      go_wp2
      go_quiet (first | (go_at_call 38; exact Calls.quiet_of (HSM.out _)))
      go_wp2
      go_roundg gk1
      case measure => omega
      case rel => exact ⟨i + 1, _, by omega, by go_num, by rw [HWR.out, World.drewN_drewN]⟩

theorem readyDead {S : Nat → Prop} {w w1 : World} {d : Nat} {k : Dk} (h : St S w d k w1) (hd : k.dead = true) : Calls Try.prog 29 #[.pointer (some ⟨d, 0, none⟩), .slice none 0 0] w1 fun e w' => e = .returned (.int .i64 34) ∧ w' = w1 := by
  obtain ⟨ms, md, vc, rc, Sf, hm⟩ := h.at
  have := readyOf d k.dead [] _ w1 hm.at0.2 (StrsAt.none w1)
  rw [show rdy k.dead [] = 34 by unfold rdy; rw [hd]; rfl] at this
  exact this
theorem listDead {S : Nat → Prop} {w w1 : World} {d : Nat} {k : Dk} (h : St S w d k w1) (hd : k.dead = true) : Calls Try.prog 7 #[.pointer (some ⟨d, 0, none⟩)] w1 fun e w' => e = .returned (.tuple #[.slice none 0 0, .int .i64 34]) ∧ w' = w1 := by
  have HR : Hid (Calls Try.prog 29 #[.pointer (some ⟨d, 0, none⟩), .slice none 0 0] w1 fun e w' => e = .returned (.int .i64 34) ∧ w' = w1) := readyDead h hd
  clear h hd
  go_enter Try.func7, Try.ntmps7
  go_wp2_with fail
  refine HR.out.mono ?_
  rintro e w2 ⟨rfl, rfl⟩
  go_wp2
  go_ret2
  exact ⟨rfl, rfl⟩
theorem readDead {S : Nat → Prop} {w w1 : World} {d : Nat} {k : Dk} (h : St S w d k w1) (hd : k.dead = true) (s : ByteArray) (hs : s.size ≤ maxLen) (x y : Int) : Calls Try.prog 23 #[.pointer (some ⟨d, 0, none⟩), .string s, .int .i64 x, .int .i64 y] w1 fun e w' => e = .returned (.tuple #[.slice none 0 0, .int .i64 34]) ∧ Below w1.heap.size w1 w' := by
  have HF : Hid (Calls Try.prog 31 #[.pointer (some ⟨d, 0, none⟩), .string s] w1 fun e w' => e = .returned (.tuple #[.pointer none, .int .i64 34]) ∧ w' = w1.alloc (.cells #[.string s] 9)) := by
    have := findSt h s hs
    rw [show fnd k.dead k.L s = (.pointer none, 34) by unfold fnd; rw [hd]; rfl] at this
    exact this
  have HB : Hid (Below w1.heap.size w1 (w1.alloc (.cells #[.string s] 9))) := (Below.refl _ _).alloc (Nat.le_refl _) _
  clear h hd
  go_enter Try.func23, Try.ntmps23
  go_wp2_with fail
  refine HF.out.mono ?_
  rintro e w2 ⟨rfl, rfl⟩
  go_wp2
  go_ret2
  exact ⟨rfl, HB.out⟩
end Go.Proofs.Ytgffncbmchimdaa

/-! What List answers on a disk with power. -/
namespace Go.Proofs.Ytgffncbmchimdaa
open Go.RowKit Go.Maps Plain
set_option linter.unusedVariables false
set_option linter.unusedSimpArgs false

/-- A new row of the directory's names, rising. -/
def NmsPost (L : Dir) (w1 : World) (v : Value) (w2 : World) : Prop := ∃ a c r, v = .slice a (nms L).length c ∧ (nms L).length ≤ c ∧ c ≤ 2 ^ 63 - 1 ∧ OwnV w2 (.slice a (nms L).length c) ((nms L).map encStr) r ∧ (∀ g, r = some g → w1.heap.size ≤ g) ∧ Below w1.heap.size w1 w2
theorem risingAll (w1 : World) (m : Option Nat) (L : Dir) (h : MapO w1 m L) (hmax : L.length ≤ 2199023255000) :
    Calls Try.prog 30 #[.map m] w1 fun e w2 => ∃ v, e = .returned v ∧ NmsPost L w1 v w2 := by
  rcases h with ⟨rfl, rfl⟩ | ⟨b, rfl, h⟩
  · refine (risingNil w1).mono ?_
    rintro e w2 ⟨rfl, h2⟩
    have e0 : nms [] = [] := by simp [nms, srt]
    refine ⟨_, rfl, ?_⟩
    unfold NmsPost
    rw [e0]
    exact ⟨none, 0, none, rfl, by simp, by simp, OwnV.nil _, by simp, h2⟩
  · refine (risingAt b L w1 h (by omega)).mono ?_
    rintro e w2 ⟨v, ss, rfl, hp, hrow, _, h2⟩
    have hs : ss.mergeSort (fun x y => decide (x ≤ y)) = nms L := srt_eq hp
    rw [hs] at hrow
    obtain ⟨r, h3, h4⟩ := OwnV.of_row hrow
    obtain ⟨a, c, rfl, h5, h6⟩ := h3.shape
    rw [List.length_map] at h3 h6
    unfold maxLen at h5
    exact ⟨_, rfl, a, c, r, by rw [List.length_map], h6, by omega, h3, h4, h2⟩

theorem listLive {S : Nat → Prop} {w w1 : World} {d : Nat} {k : Dk} (h : St S w d k w1) (hd : k.dead = false) (hfew : k.L.length ≤ 2199023255000) :
    Calls Try.prog 7 #[.pointer (some ⟨d, 0, none⟩)] w1 fun e w' => ∃ v, e = .returned (.tuple #[v, .int .i64 0]) ∧ NmsPost k.L w1 v w' := by
  obtain ⟨ms, md, vc, rc, Sf, hm⟩ := h.at
  have HR : Hid (Calls Try.prog 29 #[.pointer (some ⟨d, 0, none⟩), .slice none 0 0] w1 fun e w' => e = .returned (.int .i64 0) ∧ w' = w1) := by
    have := readyOf d k.dead [] _ w1 hm.at0.2 (StrsAt.none w1)
    rw [show rdy k.dead [] = 0 by unfold rdy; rw [hd]; rfl] at this
    exact this
  have HI : Hid (Calls Try.prog 30 #[.map ms] w1 fun e w2 => ∃ v, e = .returned v ∧ NmsPost k.L w1 v w2) := risingAll w1 ms k.L hm.seen hfew
  have hc := hm.at0.1
  clear hm h hd hfew
  go_enter Try.func7, Try.ntmps7
  go_wp2_with fail
  refine HR.out.mono ?_
  rintro e w2 ⟨rfl, rfl⟩
  go_wp2_with fail
  refine HI.out.mono ?_
  rintro e w3 ⟨v, rfl, hp⟩
  have HP : Hid (NmsPost k.L w2 v w3) := hp
  clear hp
  go_wp2
  go_ret2
  exact ⟨_, rfl, HP.out⟩
end Go.Proofs.Ytgffncbmchimdaa

/-! A disk that is settled; what a crash with no picks leaves. -/
namespace Go.Proofs.Ytgffncbmchimdaa
open Go.RowKit Go.Maps Plain
set_option linter.unusedVariables false
set_option linter.unusedSimpArgs false

theorem imgL_alike {σ τ : Type} (L : Dir) (B : σ → Nat → List Nat) (nx : σ → Nat → σ) (C : τ → Nat → List Nat) (ny : τ → Nat → τ) : ∀ (ks : List Nm) (s : σ) (t : τ), (∀ k ∈ ks, ∀ s t, B s (fileOf L k) = C t (fileOf L k)) → imgL L B nx s ks = imgL L C ny t ks
  | [], s, t, h => rfl
  | k :: ks, s, t, h => by
    rw [imgL, imgL, h k (List.mem_cons_self ..) s t, imgL_alike L B nx C ny ks _ _ (fun x hx => h x (List.mem_cons_of_mem _ hx))]
theorem fileOf_mem {L : Dir} {k : Nm} (h : k ∈ nms L) : (k, fileOf L k) ∈ L := by
  obtain ⟨g, hg⟩ := look_some (nms_mem.1 h)
  have := look_mem hg
  unfold fileOf
  rw [hg]
  exact this

/-- Nothing is pending. -/
structure Dk.Still (k : Dk) : Prop where
  dir : k.chg = []
  file : ∀ p ∈ k.L, (k.file p.2).chg = []
theorem upV_zero (ps : List Int) : upV ps 0 = 0 := by
  cases ps with
  | nil => rfl
  | cons p ps => simp [upV]
theorem lf_quiet {f : Fl} (ps : List Int) (hc : f.chg = []) (hf : f.Ok) : (lf ps f).1 = f.seen := by
  have e := hf.eq
  unfold lf lfB
  rw [hc] at e ⊢
  simp only [List.getElem?_nil, List.take_nil]
  exact e.symm
theorem Dk.Still.crash {k : Dk} {n : Nat} (h : k.Still) (hk : k.Dok n) (ps : List Int) : crK k ps = imK k := by
  have e1 : crL k ps = k.L := by
    unfold crL
    rw [hk.eq, h.dir, List.take_nil]
  unfold crK imK
  rw [e1]
  refine imgL_alike _ _ _ _ _ _ _ _ (fun nm hn s t => ?_)
  have hm := fileOf_mem hn
  exact lf_quiet s (h.file _ hm) (hk.ok.fok _ (hk.ok.refs _ hm)).1

/-- What lasts. -/
def duK (k : Dk) : List (Nm × List Nat) := imgL k.Ld (fun (_ : Unit) G => (k.file G).dur) (fun _ _ => ()) () (nms k.Ld)
theorem lf_none (f : Fl) : lf [] f = (f.dur, []) := by
  unfold lf lfB
  show (f.chg[0]?).elim (fst f.dur (f.chg.take 0), _) _ = _
  cases e : f.chg[0]? with
  | none => rfl
  | some c =>
    show (fst f.dur (f.chg.take 0) ++ (tornB [] c).1, (tornB [] c).2) = _
    rcases c with b | m
    · show (fst f.dur (f.chg.take 0) ++ (b.take 0), ([] : List Int)) = _
      simp [fst]
    · show (fst f.dur (f.chg.take 0) ++ [], ([] : List Int)) = _
      simp [fst]
theorem crK_none (k : Dk) : crK k [] = duK k := by
  unfold crK duK
  have e1 : crL k [] = k.Ld := rfl
  rw [e1]
  have : ∀ (ks : List Nm) (t : Unit), imgL k.Ld (fun ps G => (lf ps (k.file G)).1) (fun ps G => (lf ps (k.file G)).2) [] ks = imgL k.Ld (fun (_ : Unit) G => (k.file G).dur) (fun _ _ => ()) t ks := by
    intro ks
    induction ks with
    | nil => intro t; rfl
    | cons x ks ih =>
      intro t
      rw [imgL, imgL, lf_none]
      exact congrArg _ (ih ())
  exact this _ _
/-- What lasts has not turned. -/
theorem duK_of {k k' : Dk} (hL : k'.Ld = k.Ld) (hf : ∀ p ∈ k.Ld, (k'.file p.2).dur = (k.file p.2).dur) : duK k' = duK k := by
  unfold duK
  rw [hL]
  exact imgL_alike _ _ _ _ _ _ _ _ (fun nm hn _ _ => hf _ (fileOf_mem hn))
theorem duK_set {k : Dk} {G : Nat} {f : Fl} (h : f.dur = (k.file G).dur) : duK (k.setFile G f) = duK k := duK_of rfl (fun p hp => by
  show (upd k.file G f p.2).dur = _
  unfold upd
  by_cases e : p.2 = G
  · rw [if_pos e, h, e]
  · rw [if_neg e])
theorem duK_add {k : Dk} {G : Nat} (hp : k.Past) (hG : ¬ k.live G) : duK (k.addFile G) = duK k := duK_of rfl (fun p hm => by
  show (upd k.file G _ p.2).dur = _
  unfold upd
  rw [if_neg (fun e : p.2 = G => hG (e ▸ hp.ld p hm))])
theorem duK_chK {k : Dk} {G : Nat} {kd m : Int} {nm to' : ByteArray} {l : List Nat} (hp : k.Past) (hG : ¬ k.live G) (h4 : kd ≠ 4) (h5 : kd ≠ 5) : duK (chK k kd nm to' m l G).2 = duK k := by
  have hs : duK k.spent = duK k := rfl
  unfold chK
  rw [if_neg h4, if_neg h5]
  split
  · unfold createK
    split
    · rfl
    split
    · rfl
    split
    · rfl
    split
    · exact duK_add (k := k.spent) ⟨hp.ld, hp.made, hp.few⟩ hG
    · rfl
  split
  · unfold appendK
    split
    · split
      · rfl
      split
      · split
        · exact duK_set (k := k.spent) rfl
        · rfl
      · rfl
    · rfl
  split
  · unfold truncK
    split
    · split
      · split
        · rfl
        split
        · exact duK_set (k := k.spent.uses _) rfl
        · rfl
      · rfl
    · rfl
  split
  · unfold renameK
    split
    · rfl
    split
    · rfl
    split
    · split
      · rfl
      · rfl
    · rfl
  · unfold removeK
    split
    · split
      · rfl
      · rfl
    · rfl
end Go.Proofs.Ytgffncbmchimdaa

/-! All names of a disk are names; all its files synced, one by one. -/
namespace Go.Proofs.Ytgffncbmchimdaa
open Go.RowKit Go.Maps Plain
set_option linter.unusedVariables false
set_option linter.unusedSimpArgs false

def Dk.Nmd (k : Dk) : Prop := ∀ p ∈ k.L, nmL p.1 = true
theorem on_names {L : Dir} {c : DC} {p : Nm × Nat} (h : p ∈ DC.on L c) : p.1 ∈ L.map (·.1) ∨ (∃ g, c = DC.mk p.1 g) ∨ ∃ a, c = DC.mv a p.1 := by
  cases c using DC.elim with
  | mk k g =>
    rw [DC.on_mk] at h
    rcases mem_put h with rfl | h
    · exact .inr (.inl ⟨_, rfl⟩)
    · exact .inl (List.mem_map_of_mem h)
  | mv a b =>
    rw [DC.on_mv] at h
    cases e : look L a with
    | none => rw [e] at h; exact .inl (List.mem_map_of_mem h)
    | some g =>
      rw [e] at h
      rcases mem_put (mem_del h) with rfl | h
      · exact .inr (.inr ⟨_, rfl⟩)
      · exact .inl (List.mem_map_of_mem h)
  | rm k =>
    rw [DC.on_rm] at h
    exact .inl (List.mem_map_of_mem (mem_del h))
theorem rdy_names {dead : Bool} {ns : List ByteArray} (h : ¬ rdy dead ns ≠ 0) : nmsB ns = true := by
  unfold rdy at h
  cases dead with
  | true => simp at h
  | false =>
    cases e : nmsB ns with
    | true => rfl
    | false => rw [e] at h; simp at h
theorem Dk.Nmd.did {k : Dk} {c : DC} (h : k.Nmd) (h1 : ∀ s g, c = DC.mk s g → nmL s = true) (h2 : ∀ a s, c = DC.mv a s → nmL s = true) : (k.did c).Nmd := fun p hp => by
  rcases on_names hp with h3 | ⟨g, h3⟩ | ⟨a, h3⟩
  · obtain ⟨q, hq, e⟩ := List.mem_map.mp h3
    rw [← e]; exact h q hq
  · exact h1 _ _ h3
  · exact h2 _ _ h3
theorem DC.mk_ne_mv {k a b : Nm} {g : Nat} : DC.mk k g ≠ DC.mv a b := fun e => by cases e
theorem DC.mk_ne_rm {k a : Nm} {g : Nat} : DC.mk k g ≠ DC.rm a := fun e => by cases e
theorem DC.mv_ne_rm {k a b : Nm} : DC.mv a b ≠ DC.rm k := fun e => by cases e
theorem Dk.Nmd.chK {k : Dk} {G : Nat} {kd m : Int} {nm to' : ByteArray} {l : List Nat} (h : k.Nmd) : (chK k kd nm to' m l G).2.Nmd := by
  unfold Go.Proofs.Ytgffncbmchimdaa.chK
  split
  · unfold createK
    split
    · exact h
    rename_i hr
    have hn : nmL nm.data.toList = true := by
      have := rdy_names hr
      simpa [nmsB] using this
    split
    · exact h
    split
    · exact h
    split
    · refine Dk.Nmd.did (k := k.spent.addFile G) h (fun s g e => ?_) (fun a s e => (DC.mk_ne_mv e).elim)
      cases e
      exact hn
    · exact h
  split
  · unfold appendK
    split
    · split
      · exact h
      split
      · split
        · exact h
        · exact h
      · exact h
    · exact h
  split
  · unfold truncK
    split
    · split
      · split
        · exact h
        split
        · exact h
        · exact h
      · exact h
    · exact h
  split
  · unfold syncK
    split
    · split
      · split
        · exact h
        · exact h
      · exact h
    · exact h
  split
  · unfold syncDirK
    split
    · exact h
    split
    · exact h
    · exact h
  split
  · unfold renameK
    split
    · exact h
    rename_i hr
    have hn : nmL to'.data.toList = true := by
      have := rdy_names hr
      simp [nmsB] at this
      exact this.2
    split
    · exact h
    split
    · split
      · refine Dk.Nmd.did (k := k.spent.uses _) h (fun s g e => (DC.mk_ne_mv e.symm).elim) (fun a s e => ?_)
        cases e
        exact hn
      · exact h
    · exact h
  · unfold removeK
    split
    · split
      · exact Dk.Nmd.did (k := k.spent.uses _) h (fun s g e => (DC.mk_ne_rm e.symm).elim) (fun a s e => (DC.mv_ne_rm e.symm).elim)
      · exact h
    · exact h

/-- A file that is there is synced. -/
theorem sync_is {k : Dk} {s : Nm} (ho : k.On) (hn : k.Nmd) (hs : s ∈ nms k.L) : syncK k (str s) = (0, k.spent.setFile (fileOf k.L s) ⟨(k.file (fileOf k.L s)).seen, (k.file (fileOf k.L s)).seen, []⟩) := by
  obtain ⟨g, hg⟩ := look_some (nms_mem.1 hs)
  have hnm : nmL s = true := hn _ (fileOf_mem hs)
  have hf : fileOf k.L s = g := by unfold fileOf; rw [hg]; rfl
  have e1 : (fnd k.dead k.L (str s)).2 = 0 := by
    unfold fnd
    rw [str_list, ho.dead, hnm, hg]; rfl
  unfold syncK
  rw [if_pos e1, str_list, hg, hf]
  show (if k.can = true then _ else _) = _
  rw [if_pos ho.can]
theorem look_inj {L : Dir} (hf : (L.map (·.2)).Nodup) {p q : Nm × Nat} (hp : p ∈ L) (hq : q ∈ L) (e : p.2 = q.2) : p = q := by
  induction L with
  | nil => simp at hp
  | cons x L ih =>
    rw [List.map_cons, List.nodup_cons] at hf
    rcases List.mem_cons.mp hp with rfl | hp2
    · rcases List.mem_cons.mp hq with rfl | hq2
      · rfl
      · exact (hf.1 (e ▸ List.mem_map_of_mem hq2)).elim
    · rcases List.mem_cons.mp hq with rfl | hq2
      · exact (hf.1 (e ▸ List.mem_map_of_mem hp2)).elim
      · exact ih hf.2 hp2 hq2

theorem keys_inj {L : Dir} (hf : (L.map (·.1)).Nodup) {s : Nm} {a b : Nat} (hp : (s, a) ∈ L) (hq : (s, b) ∈ L) : a = b := by
  induction L with
  | nil => simp at hp
  | cons x L ih =>
    rw [List.map_cons, List.nodup_cons] at hf
    rcases List.mem_cons.mp hp with rfl | hp2
    · rcases List.mem_cons.mp hq with e | hq2
      · exact (Prod.mk.inj e).2.symm
      · exact (hf.1 (List.mem_map_of_mem (f := (·.1)) hq2)).elim
    · rcases List.mem_cons.mp hq with rfl | hq2
      · exact (hf.1 (List.mem_map_of_mem (f := (·.1)) hp2)).elim
      · exact ih hf.2 hp2 hq2

/-- i of the names have been synced. -/
structure SyI (L : Dir) (i n : Nat) (k : Dk) : Prop where
  dirL : k.L = L
  good : k.Good (n + i)
  past : k.Past
  nmd : k.Nmd
  fin : ∀ j s, j < i → (nms L)[j]? = some s → (k.file (fileOf L s)).chg = []
theorem SyI.start {n : Nat} {k : Dk} (hg : k.Good n) (hp : k.Past) (hn : k.Nmd) : SyI k.L 0 n k := ⟨rfl, hg, hp, hn, fun j s h => by omega⟩
theorem SyI.next {L : Dir} {i n G : Nat} {k : Dk} {s : Nm} (h : SyI L i n k) (hs : (nms L)[i]? = some s) (hG : ¬ k.live G) (hn : n + i ≤ 4398046511102) (hz : (str s).size ≤ maxLen) : (syncK k (str s)).1 = 0 ∧ SyI L (i + 1) n (syncK k (str s)).2 := by
  have hmem : s ∈ nms L := List.mem_of_getElem? hs
  have e := sync_is h.good.on h.nmd (by rw [h.dirL]; exact hmem)
  have hch : chK k 4 (str s) (str s) 0 [] G = syncK k (str s) := rfl
  refine ⟨by rw [e], ?_, ?_, ?_, ?_, ?_⟩
  · rw [e]; exact h.dirL
  · rw [← hch]; exact h.good.chK hz hz hn hG
  · rw [← hch]; exact h.past.chK h.good.dok
  · rw [← hch]; exact h.nmd.chK
  · intro j t hj ht
    rw [e, h.dirL]
    show (upd k.file (fileOf L s) _ (fileOf L t)).chg = []
    unfold upd
    by_cases he : fileOf L t = fileOf L s
    · rw [if_pos he]
    · rw [if_neg he]
      refine h.fin j t ?_ ht
      rcases Nat.lt_or_eq_of_le (Nat.lt_succ_iff.mp hj) with h1 | h1
      · exact h1
      · subst h1
        rw [hs] at ht
        exact (he (by rw [Option.some.inj ht])).elim
/-- Then the directory: nothing is pending. -/
theorem SyI.done {L : Dir} {n G : Nat} {k : Dk} (h : SyI L (nms L).length n k) (hG : ¬ k.live G) (hn : n + (nms L).length ≤ 4398046511102) : (syncDirK k).1 = 0 ∧ (syncDirK k).2.Still ∧ (syncDirK k).2.Good (n + (nms L).length + 1) ∧ (syncDirK k).2.Past ∧ (syncDirK k).2.Nmd := by
  have e : syncDirK k = (0, k.spent.settled) := by
    unfold syncDirK
    rw [h.good.on.dead, h.good.on.can]; rfl
  have hz : (str []).size ≤ maxLen := by decide
  have hch : chK k 5 (str []) (str []) 0 [] G = syncDirK k := rfl
  refine ⟨by rw [e], ?_, ?_, ?_, ?_⟩
  · rw [e]
    refine ⟨rfl, fun p hp => ?_⟩
    have hp' : p ∈ L := h.dirL ▸ hp
    have hk : p.1 ∈ nms L := nms_mem.2 (List.mem_map_of_mem hp')
    obtain ⟨j, hj, ej⟩ := List.getElem_of_mem hk
    have h1 := h.fin j p.1 hj (by rw [List.getElem?_eq_getElem hj, ej])
    have h2 : fileOf L p.1 = p.2 := by
      have hm := fileOf_mem hk
      have hkeys := h.good.sum.keys
      rw [h.dirL] at hkeys
      exact keys_inj hkeys hm hp'
    rw [h2] at h1
    exact h1
  · rw [← hch]; exact h.good.chK hz hz hn hG
  · rw [← hch]; exact h.past.chK h.good.dok
  · rw [← hch]; exact h.nmd.chK
end Go.Proofs.Ytgffncbmchimdaa

/-! A file that is loaded; a file that is added to a disk as it is. -/
namespace Go.Proofs.Ytgffncbmchimdaa
open Go.RowKit Go.Maps Plain
set_option linter.unusedVariables false
set_option linter.unusedSimpArgs false

theorem own_slice {w : World} {v : Value} {l : List Nat} {r : Option Nat} (h : Own w v l r) : ∃ a c, v = .slice a l.length c := by
  rcases h.2 with ⟨rfl, rfl, _⟩ | ⟨g, cap, _, rfl, _⟩
  · exact ⟨none, 0, rfl⟩
  · exact ⟨_, _, rfl⟩
def LdPost (l : List Nat) (w : World) (e : Ending) (w' : World) : Prop := ∃ T, e = .returned (.pointer (some ⟨w.heap.size, 0, none⟩)) ∧ FileAt w' w.heap.size ⟨l, l, []⟩ T ∧ (∀ x, T x → w.heap.size ≤ x) ∧ Below w.heap.size w w'
theorem loaded_made {w w1 w2 : World} {l : List Nat} {v1 v2 : Value} {r1 r2 : Option Nat} (h1 : Own w1 v1 l r1) (hb1 : Below (w.heap.size + 1) (w.alloc emptyF) w1) (hr1 : ∀ g, r1 = some g → w.heap.size + 1 ≤ g) (h2 : Own w2 v2 l r2) (hb2 : Below w1.heap.size w1 w2) (hr2 : ∀ g, r2 = some g → w1.heap.size ≤ g) :
    LdPost l w (.returned (.pointer (some ⟨w.heap.size, 0, none⟩))) ((w2.setCell ⟨w.heap.size, 0, none⟩ v1).setCell ⟨w.heap.size, 1, none⟩ v2) := by
  have hg := (grow_set w2 w.heap.size 0 v1)
  have hg2 := grow_set (w2.setCell ⟨w.heap.size, 0, none⟩ v1) w.heap.size 1 v2
  have hsz : ((w2.setCell ⟨w.heap.size, 0, none⟩ v1).setCell ⟨w.heap.size, 1, none⟩ v2).heap.size = w2.heap.size := by simp
  have hs1 : w.heap.size + 1 ≤ w1.heap.size := by have := hb1.size; simpa using this
  have hs2 := hb2.size
  have hB : w2.heap[w.heap.size]? = some (.cells #[.slice none 0 0, .slice none 0 0, .slice none 0 0] 78) := by
    rw [hb2.block _ (by omega), hb1.block _ (by omega)]
    show (w.heap.push emptyF)[w.heap.size]? = _
    simp [emptyF]
  have hC := heap_setCell_same _ w.heap.size 1 _ _ v2 (heap_setCell_same w2 w.heap.size 0 _ _ v1 hB)
  have keep : ∀ x, x < w2.heap.size → x ≠ w.heap.size → ((w2.setCell ⟨w.heap.size, 0, none⟩ v1).setCell ⟨w.heap.size, 1, none⟩ v2).heap[x]? = w2.heap[x]? := fun x hx hn =>
    (hg2.block x (by simpa using hx) (by simpa using hn)).trans (hg.block x hx (by simpa using hn))
  have o1 := h1.later hb2
  refine ⟨fun x => w.heap.size ≤ x ∧ x < w2.heap.size, rfl, ⟨v1, v2, .slice none 0 0, r1, r2, none, [], fun _ => none, ⟨hC, ?_, ?_, ⟨OwnV.nil _, rfl, by simp, by simp⟩, ?_, ?_, by simp, by simp⟩, ?_, ?_⟩, fun x hx => hx.1, ?_⟩
  · exact o1.of_block (by omega) (fun g e => keep g (by subst e; exact o1.lt) (by have := hr1 g e; omega))
  · exact h2.of_block (by omega) (fun g e => keep g (by subst e; exact h2.lt) (by have := hr2 g e; omega))
  · intro g e
    refine ⟨by have := hr1 g e; omega, fun e2 => ?_, by simp, by simp⟩
    have := hr2 g e2
    have h3 : g < w1.heap.size := by subst e; exact h1.lt
    omega
  · intro g e
    exact ⟨by have := hr2 g e; omega, by simp, by simp⟩
  · intro x hx
    rcases hx with rfl | hx | hx | hx | ⟨j, hx⟩
    · exact ⟨by omega, by omega⟩
    · have := hr1 x hx
      have h3 : x < w2.heap.size := by subst hx; exact o1.lt
      exact ⟨by omega, h3⟩
    · have := hr2 x hx
      have h3 : x < w2.heap.size := by subst hx; exact h2.lt
      exact ⟨by omega, h3⟩
    · simp at hx
    · simp at hx
  · intro x hx
    rw [hsz]; exact hx.2
  · have b0 : Below w.heap.size w (w.alloc emptyF) := (Below.refl _ _).alloc (Nat.le_refl _) _
    have b1 : Below w.heap.size w w2 := (b0.trans (hb1.mono (by omega))).trans (hb2.mono (by omega))
    have b2 : Below w.heap.size w2 ((w2.setCell ⟨w.heap.size, 0, none⟩ v1).setCell ⟨w.heap.size, 1, none⟩ v2) :=
      (grow_below hg (by omega) (by simp)).trans (grow_below hg2 (by simp; omega) (by simp))
    exact b1.trans b2

set_option maxHeartbeats 2000000 in
set_option maxRecDepth 1000000 in
theorem loadedOf (w : World) (a : Option Addr) (n c : Nat) (l : List Nat) (h : BytesAt w (.slice a n c) l) (hl : l.length ≤ 140737488355328) :
    Calls Try.prog 47 #[.slice a n c] w (LdPost l w) := by
  have HC : Hid (∀ w1, Below w.heap.size w w1 → Calls Try.prog 37 #[.slice a n c] w1 fun e w' => ∃ v' r', e = .returned v' ∧ Own w' v' l r' ∧ Below w1.heap.size w1 w' ∧ (∀ g, r' = some g → w1.heap.size ≤ g)) := fun w1 hb => cloneOf _ _ w1 (h.later hb) hl
  have HB0 : Hid (Below w.heap.size w (w.alloc emptyF)) := (Below.refl _ _).alloc (Nat.le_refl _) _
  clear h hl
  go_enter Try.func47, Try.ntmps47
  go_wp2_with fail
  refine (HC.out _ HB0.out).mono ?_
  rintro e w1 ⟨v1, r1, rfl, o1, b1, q1⟩
  have H1 : Hid (Own w1 v1 l r1 ∧ Below (w.heap.size + 1) (w.alloc emptyF) w1 ∧ ∀ g, r1 = some g → w.heap.size + 1 ≤ g) := ⟨o1, by simpa using b1, by simpa using q1⟩
  have HB1 : Hid (Below w.heap.size w w1) := HB0.out.trans (b1.mono (by simp))
  clear o1 b1 q1
  go_wp2_with fail
  refine (HC.out _ HB1.out).mono ?_
  rintro e w2 ⟨v2, r2, rfl, o2, b2, q2⟩
  have HP := loaded_made H1.out.1 H1.out.2.1 H1.out.2.2 o2 b2 q2
  have HP : Hid (LdPost l w (.returned (.pointer (some ⟨w.heap.size, 0, none⟩))) ((w2.setCell ⟨w.heap.size, 0, none⟩ v1).setCell ⟨w.heap.size, 1, none⟩ v2)) := HP
  obtain ⟨a1, c1, rfl⟩ := own_slice H1.out.1
  obtain ⟨a2, c2, rfl⟩ := own_slice o2
  have hB : w2.heap[w.heap.size]? = some (.cells #[.slice none 0 0, .slice none 0 0, .slice none 0 0] 78) := by
    have hs1 : w.heap.size + 1 ≤ w1.heap.size := by have := H1.out.2.1.size; simpa using this
    rw [b2.block _ (by omega), H1.out.2.1.block _ (by omega)]
    show (w.heap.push emptyF)[w.heap.size]? = _
    simp [emptyF]
  have hc0 : w2.cell? ⟨w.heap.size, 0, none⟩ = some (.slice none 0 0) := by simp [World.cell?, hB]
  have hc1 : w2.cell? ⟨w.heap.size, 1, none⟩ = some (.slice none 0 0) := by simp [World.cell?, hB]
  have hf0 : w2.frozen? ⟨w.heap.size, 0, none⟩ = false := by simp [World.frozen?, hB]
  have hf1 : w2.frozen? ⟨w.heap.size, 1, none⟩ = false := by simp [World.frozen?, hB]
  clear o2 b2 q2 hB
  go_wp2
  go_ret
  exact HP.out
end Go.Proofs.Ytgffncbmchimdaa

/-! A file is added to a disk as it is. -/
namespace Go.Proofs.Ytgffncbmchimdaa
open Go.RowKit Go.Maps Plain
set_option linter.unusedVariables false
set_option linter.unusedSimpArgs false

def Dk.addFl (k : Dk) (G : Nat) (f : Fl) : Dk := { k with file := upd k.file G f, live := fun x => k.live x ∨ x = G }
theorem addFlM {w w' : World} {d G : Nat} {k : Dk} {f : Fl} {ms md : Option Nat} {vc : Value} {rc : Option Nat} {Sf : Nat → Nat → Prop} {T : Nat → Prop} (h : DiskM w d k ms md vc rc Sf) (hb : Below w.heap.size w w') (hf : FileAt w' G f T) (hT : ∀ x, T x → w.heap.size ≤ x) (hG : w.heap.size ≤ G) : DiskM w' d (k.addFl G f) ms md vc rc (upd Sf G T) := by
  have h' := h.later hb
  have hd := h.dlt
  refine ⟨h'.cells, h'.seen, h'.dur, h'.chg, fun G1 hG1 => ?_, h'.sepS, h'.sepD, h'.sepC, fun G1 hG1 x hx => ?_, fun G1 G2 h1 h2 hne12 x hx hx2 => ?_⟩
  · by_cases e : G1 = G
    · subst e
      show FileAt _ _ (upd k.file _ _ _) (upd Sf _ _ _)
      rw [upd_same, upd_same]
      exact hf
    · show FileAt _ _ (upd k.file _ _ _) (upd Sf _ _ _)
      rw [upd_other _ _ _ _ e, upd_other _ _ _ _ e]
      exact h'.files G1 (hG1.resolve_right e)
  · by_cases e : G1 = G
    · subst e
      rw [upd_same] at hx
      have := hT x hx
      exact ⟨by omega, fun e => by have := h.seen.rlt _ e; omega, fun e => by have := h.dur.rlt _ e; omega, fun e => by have := h.chg.rlt _ e; omega⟩
    · rw [upd_other _ _ _ _ e] at hx
      exact h'.sepF G1 (hG1.resolve_right e) x hx
  · by_cases e1 : G1 = G
    · subst e1
      rw [upd_same] at hx
      rw [upd_other _ _ _ _ (Ne.symm hne12)] at hx2
      have := (h.files G2 (h2.resolve_right (Ne.symm hne12))).live _ hx2
      have := hT x hx
      omega
    · rw [upd_other _ _ _ _ e1] at hx
      by_cases e2 : G2 = G
      · subst e2
        rw [upd_same] at hx2
        have := (h.files G1 (h1.resolve_right e1)).live _ hx
        have := hT x hx2
        omega
      · rw [upd_other _ _ _ _ e2] at hx2
        exact h.sepFF G1 G2 (h1.resolve_right e1) (h2.resolve_right e2) hne12 x hx hx2
theorem addFlSt {w w1 w2 : World} {d G : Nat} {k : Dk} {f : Fl} {S T : Nat → Prop} (h : St S w d k w1) (hb : Below w1.heap.size w1 w2) (hf : FileAt w2 G f T) (hT : ∀ x, T x → w1.heap.size ≤ x) (hG : w1.heap.size ≤ G) : St S w d (k.addFl G f) w2 := by
  obtain ⟨⟨ms, md, vc, rc, Sf, hm, hS1, hS2, hS3⟩, hc⟩ := h
  have hsz := hb.size
  have hcs := hc.size
  refine ⟨⟨ms, md, vc, rc, _, addFlM hm hb hf hT hG, fun x hx => ?_, fun G1 x hG1 hx => ?_, fun x hx => ?_⟩, hc.more hb⟩
  · rcases hS1 x hx with h | h
    · exact .inl h
    · exact .inr ⟨h.1, by omega⟩
  · by_cases e : G1 = G
    · subst e
      rw [upd_same] at hx
      have := hT x hx
      exact .inr ⟨by omega, hf.live x hx⟩
    · rw [upd_other _ _ _ _ e] at hx
      rcases hS2 G1 x (hG1.resolve_right e) hx with h | h
      · exact .inl h
      · exact .inr ⟨h.1, by omega⟩
  · rcases hx with hx | hx
    · have := hS3 x (.inl hx); omega
    · exact hx.2

/-- One file of an image, loaded. -/
def Dk.load1 (k : Dk) (nm : Nm) (l : List Nat) (G : Nat) : Dk := ((k.addFl G ⟨l, l, []⟩).did (DC.mk nm G)).uses (k.used + l.length)
end Go.Proofs.Ytgffncbmchimdaa

/-! An image that is right. -/
namespace Go.Proofs.Ytgffncbmchimdaa
open Go.RowKit Go.Maps Plain
set_option linter.unusedVariables false
set_option linter.unusedSimpArgs false

/-- a <= b, as the program asks it. -/
def leB (a b : Nm) : Bool := Op.bytesLess (str a).toList (str b).toList || (str a).toList == (str b).toList
theorem ImR.after {w w' : World} {v : Value} {im : List (Nm × List Nat)} (h : ImR w v im) (hb : Below w.heap.size w w') : ImR w' v im := by
  obtain ⟨a, c, rfl, h1, h2, h3⟩ := h
  refine ⟨a, c, rfl, h1, h2, fun hne => ?_⟩
  obtain ⟨b, e, h4⟩ := h3 hne
  refine ⟨b, e, fun j k l hj => ?_⟩
  obtain ⟨ad, nd, cd, f1, f2, f3⟩ := h4 j k l hj
  exact ⟨ad, nd, cd, (hb.cell (cell_lt f1)).trans f1, (hb.cell (cell_lt f2)).trans f2, f3.later hb⟩

set_option maxHeartbeats 4000000 in
set_option maxRecDepth 1000000 in
theorem isImageOk (v : Value) (im : List (Nm × List Nat)) (w : World) (h : ImR w v im) (hn : ∀ p ∈ im, nmL p.1 = true) (hz : ∀ p ∈ im, (str p.1).size ≤ maxLen) (hup : ∀ (i : Nat) p q, im[i]? = some p → im[i + 1]? = some q → leB q.1 p.1 = false) :
    Calls Try.prog 45 #[v] w fun e w' => e = .returned (.bool true) ∧ Below w.heap.size w w' := by
  have HIM : Hid (ImR w v im) := h
  obtain ⟨a, c, rfl, p1, p2, p3⟩ := h
  have HN : Hid (∀ p ∈ im, nmL p.1 = true ∧ (str p.1).size ≤ maxLen) := fun p hp => ⟨hn p hp, hz p hp⟩
  have HU : Hid (∀ (i : Nat) p q, im[i]? = some p → im[i + 1]? = some q → leB q.1 p.1 = false) := hup
  clear p3 hn hz hup
  go_enter Try.func45, Try.ntmps45
  go_wp2
  go_loopg [7] im.length (fun gk s7 wx => ∃ (i : Nat), i + gk = im.length ∧ s7 = .int .i64 i ∧ Hid (Below w.heap.size w wx))
  case atStart => exact ⟨0, by omega, rfl, Below.refl _ _⟩
  case round =>
    obtain ⟨i, hi, rfl, HB⟩ := hrel
    cases gk with
    | zero =>
      obtain rfl : i = im.length := by omega
      go_wp2
      go_ret
      exact ⟨rfl, HB.out⟩
    | succ gk1 =>
      have hil : i < im.length := by omega
      have hne : im ≠ [] := by rintro rfl; simp at hil
      obtain ⟨⟨k, l⟩, hkl⟩ : ∃ p, im[i]? = some p := ⟨_, List.getElem?_eq_getElem hil⟩
      obtain ⟨a0, c0, e0, _, _, f0⟩ := HIM.out.after HB.out
      obtain ⟨b, eb, f1⟩ := f0 hne
      cases e0
      subst eb
      obtain ⟨ad, nd, cd, g1, g2, g3⟩ := f1 i k l hkl
      have hk := HN.out _ (List.mem_of_getElem? hkl)
      have HNM : Hid (∀ w1, Calls Try.prog 52 #[.string (str k)] w1 fun e w' => e = .returned (.bool true) ∧ w' = w1) := fun w1 => by
        have := isNameOf (str k) w1 hk.2
        rw [str_list, hk.1] at this
        exact this
      rcases Nat.eq_zero_or_pos i with hi0 | hi0
      · have hd0 : decide (0 < i) = false := by simp; omega
        have HB3 : Hid (∀ n, Below w.heap.size w ((wr.alloc (.cells #[.string (str k), .slice ad nd cd] 86)).drewN n)) := fun n => (HB.out.trans ((Below.refl _ wr).alloc (Nat.le_refl _) _ |>.mono HB.out.size)).trans ((below_drewN' _ n).mono (by have := HB.out.size; simp; omega))
        clear f0 f1 g3 hk hkl hne hi0
        generalize str k = sk at *
        go_wp2
        go_quiet ((go_at_call 52; exact Calls.quiet_of_same (HNM.out _)))
        go_wp2
        go_roundg gk1
        case measure => omega
        case rel => exact ⟨i + 1, by omega, by go_num, HB3.out _⟩
      · obtain ⟨j, rfl⟩ : ∃ j, i = j + 1 := ⟨i - 1, by omega⟩
        have hd0 : decide (0 < j + 1) = true := by simp
        obtain ⟨⟨k0, l0⟩, hkl0⟩ : ∃ p, im[j]? = some p := ⟨_, List.getElem?_eq_getElem (by omega)⟩
        obtain ⟨ad0, nd0, cd0, g4, g5, g6⟩ := f1 j k0 l0 hkl0
        have hlt := HU.out j _ _ hkl0 hkl
        have hwj : IntKind.i64.wrap (j : Int) = (j : Int) := by rw [IntKind.wrap_i64]; omega
        have g4a : (wr.alloc (.cells #[.string (str k), .slice ad nd cd] 86)).cell? ⟨b, j * 2, none⟩ = some (.string (str k0)) := (((Below.refl _ wr).alloc (Nat.le_refl _) _).cell (cell_lt g4)).trans g4
        have hji : j < im.length := by omega
        have hjz : (j : Int) < (im.length : Int) := by omega
        have hle : (Op.bytesLess (str k).toList (str k0).toList || (str k).toList == (str k0).toList) = false := hlt
        have HB3 : Hid (∀ n, Below w.heap.size w ((wr.alloc (.cells #[.string (str k), .slice ad nd cd] 86)).drewN n)) := fun n => (HB.out.trans ((Below.refl _ wr).alloc (Nat.le_refl _) _ |>.mono HB.out.size)).trans ((below_drewN' _ n).mono (by have := HB.out.size; simp; omega))
        clear f0 f1 g3 g6 hk hkl hne hi0 hkl0 hlt
        go_wp2
        go_quiet ((go_at_call 52; exact Calls.quiet_of_same (HNM.out _)))
        go_wp2
        go_roundg gk1
        case measure => omega
        case rel => exact ⟨j + 1 + 1, by omega, by go_num, HB3.out _⟩
end Go.Proofs.Ytgffncbmchimdaa

/-! What a disk is behind the files that have been loaded. -/
namespace Go.Proofs.Ytgffncbmchimdaa
open Go.RowKit Go.Maps Plain
set_option linter.unusedVariables false
set_option linter.unusedSimpArgs false

theorem Dk.Dok.addFl {k : Dk} {n : Nat} (h : k.Dok n) (G : Nat) (l : List Nat) (hl : l.length ≤ 70368744177664) : (k.addFl G ⟨l, l, []⟩).Dok n := by
  refine ⟨⟨fun p hp => .inl (h.ok.refs p hp), fun G' hG' => ?_, h.ok.ops, h.ok.fuse⟩, h.dir, h.eq, h.cnt, h.few⟩
  show (upd k.file G ⟨l, l, []⟩ G').Ok ∧ (upd k.file G ⟨l, l, []⟩ G').chg.length ≤ n
  by_cases e : G' = G
  · subst e; rw [upd_same]
    exact ⟨⟨rfl, fun j m hj => by simp at hj, fun j => by simpa [fst] using hl, by simp⟩, by simp⟩
  · rw [upd_other _ _ _ _ e]; exact h.ok.fok G' (hG'.resolve_right e)

/-- The files xs (each with its block) have been loaded. -/
structure LdI (q : Int) (xs : List ((Nm × List Nat) × Nat)) (k : Dk) : Prop where
  dok : k.Dok xs.length
  sum : k.Sum
  on : k.On
  nmd : k.Nmd
  Ld : k.Ld = []
  perm : k.L.Perm (xs.map fun x => (x.1.1, x.2))
  file : ∀ x ∈ xs, k.live x.2 ∧ k.file x.2 = ⟨x.1.2, x.1.2, []⟩
  quota : k.quota = q
  used : k.used = ((xs.map fun x => x.1.2.length).sum : Nat)
  ops : k.ops = 0
theorem LdI.start {q : Int} (h0 : 0 ≤ q) (h1 : q ≤ 1073741824) : LdI q [] (Dk.fresh q) :=
  ⟨fresh_dok q, ⟨by simp [Dk.fresh], by simp [Dk.fresh], rfl, ⟨h0, h1⟩, by show (0 : Int) ≤ 1073741824; omega⟩, ⟨rfl, rfl⟩, fun p hp => by simp [Dk.fresh] at hp, rfl, by simp [Dk.fresh], by simp, rfl, rfl, rfl⟩
theorem LdI.next {q : Int} {xs : List ((Nm × List Nat) × Nat)} {k : Dk} {nm : Nm} {l : List Nat} {G : Nat} (h : LdI q xs k) (hG : ¬ k.live G) (hn : ∀ x ∈ xs, x.1.1 ≠ nm) (hnm : nmL nm = true) (hz : nm.length ≤ maxLen) (hx : xs.length < 65536) (hl : (xs.map fun x => x.1.2.length).sum + l.length ≤ 1073741824) : LdI q (xs ++ [((nm, l), G)]) (k.load1 nm l G) := by
  have hnone : look k.L nm = none := by
    cases hh : look k.L nm with
    | none => rfl
    | some g =>
      obtain ⟨x, hx1, hx2⟩ := List.mem_map.mp (h.perm.mem_iff.mp (look_mem hh))
      exact (hn x hx1 (congrArg Prod.fst hx2)).elim
  have hp : (k.load1 nm l G).L.Perm ((nm, G) :: k.L) := by
    have := put_perm k.L nm G
    rw [del_none hnone] at this
    exact this
  have hGL : ∀ p ∈ k.L, p.2 ≠ G := fun p hp e => hG (e ▸ h.dok.ok.refs p hp)
  have hlen : (k.load1 nm l G).L.length = xs.length + 1 := by
    rw [hp.length_eq, List.length_cons, h.perm.length_eq, List.length_map]
  have hu := h.used
  refine ⟨?_, ⟨(hp.map _).nodup_iff.mpr ?_, (hp.map _).nodup_iff.mpr ?_, ?_, ?_, ?_⟩, ⟨h.on.dead, h.on.fused⟩, ?_, h.Ld, ?_, ?_, h.quota, ?_, h.ops⟩
  · rw [List.length_append]
    refine Dk.Dok.uses (Dk.Dok.did (c := DC.mk nm G) ((h.dok.more (Nat.le_succ _)).addFl G l (by omega)) h.dok.cnt hz (fun p hp' => ?_) ?_ (by omega)) _
    · rcases List.mem_cons.mp (hp.mem_iff.mp hp') with e | e
      · rw [e]; exact .inr rfl
      · exact .inl (h.dok.ok.refs p e)
    · exact Nat.le_trans (Nat.le_of_eq hlen) (by omega)
  · rw [List.map_cons, List.nodup_cons]
    refine ⟨fun hm => ?_, h.sum.keys⟩
    obtain ⟨p, hp1, hp2⟩ := List.mem_map.mp hm
    exact look_none hnone p hp1 hp2
  · rw [List.map_cons, List.nodup_cons]
    refine ⟨fun hm => ?_, h.sum.files⟩
    obtain ⟨p, hp1, hp2⟩ := List.mem_map.mp hm
    exact hGL p hp1 hp2
  · rw [tT_perm hp, tT_cons]
    have e1 : (k.load1 nm l G).len G = l.length := by
      show (upd k.file G ⟨l, l, []⟩ G).seen.length = _
      rw [upd_same]
    have e2 : tT (k.load1 nm l G).len k.L = tT k.len k.L := tT_congr (fun p hp => by
      show (upd k.file G ⟨l, l, []⟩ p.2).seen.length = _
      rw [upd_other _ _ _ _ (hGL p hp)]; rfl)
    show k.used + l.length = _
    rw [e1, e2, h.sum.used]; omega
  · exact h.sum.quota
  · show k.used + l.length ≤ 1073741824
    omega
  · intro p hp'
    rcases List.mem_cons.mp (hp.mem_iff.mp hp') with e | e
    · rw [e]; exact hnm
    · exact h.nmd p e
  · rw [List.map_append]
    exact hp.trans ((List.Perm.cons _ h.perm).trans (List.perm_append_comm (l₁ := [(nm, G)])))
  · intro x hx'
    rcases List.mem_append.mp hx' with hx1 | hx1
    · have hf := h.file x hx1
      refine ⟨.inl hf.1, ?_⟩
      show upd k.file G ⟨l, l, []⟩ x.2 = _
      rw [upd_other _ _ _ _ (fun e : x.2 = G => hG (e ▸ hf.1))]
      exact hf.2
    · obtain rfl := List.mem_singleton.mp hx1
      refine ⟨.inr rfl, ?_⟩
      show upd k.file G ⟨l, l, []⟩ G = _
      rw [upd_same]
  · show k.used + l.length = _
    rw [hu]; simp
/-- Then it is settled. -/
theorem LdI.done {q : Int} {xs : List ((Nm × List Nat) × Nat)} {k : Dk} (h : LdI q xs k) : k.settled.Good xs.length ∧ k.settled.Past ∧ k.settled.Nmd ∧ k.settled.Still := by
  refine ⟨⟨h.dok.settled, ⟨h.sum.keys, h.sum.files, h.sum.used, h.sum.quota, h.sum.lim⟩, ⟨h.on.dead, h.on.fused⟩⟩, ⟨h.dok.ok.refs, fun nm g hm => by simp [Dk.settled] at hm, h.dok.few⟩, h.nmd, ⟨rfl, fun p hp => ?_⟩⟩
  obtain ⟨x, hx1, hx2⟩ := List.mem_map.mp (h.perm.mem_iff.mp hp)
  have := (h.file x hx1).2
  subst hx2
  show (k.file x.2).chg = []
  rw [this]
end Go.Proofs.Ytgffncbmchimdaa

/-! Load of an image that is right. -/
namespace Go.Proofs.Ytgffncbmchimdaa
open Go.RowKit Go.Maps Plain
set_option linter.unusedVariables false
set_option linter.unusedSimpArgs false

/-- What is right in an image. -/
structure ImOk (im : List (Nm × List Nat)) : Prop where
  few : im.length ≤ 65536
  names : ∀ p ∈ im, nmL p.1 = true
  sizes : ∀ p ∈ im, (str p.1).size ≤ maxLen
  up : ∀ (i : Nat) p q, im[i]? = some p → im[i + 1]? = some q → leB q.1 p.1 = false
  apart : (im.map (·.1)).Nodup
  lim : (im.map fun p => p.2.length).sum ≤ 1073741824
/-- Behind i files. -/
def LdS (q : Int) (im : List (Nm × List Nat)) (w : World) (d i : Nat) (wx : World) : Prop := ∃ xs k, xs.map (·.1) = im.take i ∧ LdI q xs k ∧ Dsk w d k wx
theorem ImOk.next {q : Int} {im : List (Nm × List Nat)} {xs : List ((Nm × List Nat) × Nat)} {k : Dk} {i G : Nat} {nm : Nm} {l : List Nat} (h : ImOk im) (hx : xs.map (·.1) = im.take i) (hk : LdI q xs k) (hi : im[i]? = some (nm, l)) (hG : ¬ k.live G) : (xs ++ [((nm, l), G)]).map (·.1) = im.take (i + 1) ∧ LdI q (xs ++ [((nm, l), G)]) (k.load1 nm l G) ∧ k.used + l.length ≤ 1073741824 ∧ 0 ≤ k.used := by
  obtain ⟨hl, e⟩ := List.getElem?_eq_some_iff.mp hi
  have e1 : im.take (i + 1) = im.take i ++ [(nm, l)] := by rw [List.take_succ_eq_append_getElem hl, e]
  have hm : (nm, l) ∈ im := List.mem_of_getElem? hi
  have hxl : xs.length = i := by
    have := congrArg List.length hx
    rw [List.length_map, List.length_take] at this
    omega
  have hsum : (xs.map fun x => x.1.2.length).sum + l.length ≤ 1073741824 := by
    have h1 : (xs.map fun x => x.1.2.length) = (im.take i).map (fun p => p.2.length) := by
      rw [← hx, List.map_map]; rfl
    have h2 : ((im.take (i + 1)).map fun p => p.2.length).sum ≤ (im.map fun p => p.2.length).sum := by
      have h3 := congrArg (fun z => (z.map fun p : Nm × List Nat => p.2.length).sum) (List.take_append_drop (i + 1) im)
      simp only [List.map_append, List.sum_append] at h3
      omega
    rw [e1, List.map_append, List.sum_append] at h2
    have h4 := h.lim
    rw [h1]
    simp only [List.map_cons, List.map_nil, List.sum_cons, List.sum_nil] at h2
    omega
  refine ⟨by rw [List.map_append, hx, e1]; rfl, hk.next hG (fun x hx1 e2 => ?_) (h.names _ hm) ?_ (by have := h.few; omega) hsum, ?_, ?_⟩
  · have h1 : x.1 ∈ im.take i := hx ▸ List.mem_map_of_mem hx1
    have h2 := h.apart
    rw [← List.take_append_drop (i + 1) im, e1, List.map_append, List.map_append, List.append_assoc, List.nodup_append] at h2
    exact h2.2.2 _ (List.mem_map_of_mem h1) _ (List.mem_append_left _ (List.mem_singleton.mpr rfl)) e2
  · have := size_list _ (h.sizes _ hm)
    rwa [str_list] at this
  · rw [hk.used]; omega
  · rw [hk.used]; omega

theorem LdS.below {q : Int} {im : List (Nm × List Nat)} {w wx : World} {d i : Nat} (h : LdS q im w d i wx) : Below w.heap.size w wx := by
  obtain ⟨xs, k, _, _, hb, _⟩ := h
  exact hb
theorem loadedG (w : World) (a : Option Addr) (n c : Nat) (l : List Nat) (h : BytesAt w (.slice a n c) l) (hl : l.length ≤ 140737488355328) :
    Calls Try.prog 47 #[.slice a n c] w fun e w' => ∃ G T, e = .returned (.pointer (some ⟨G, 0, none⟩)) ∧ G = w.heap.size ∧ FileAt w' G ⟨l, l, []⟩ T ∧ (∀ x, T x → w.heap.size ≤ x) ∧ Below w.heap.size w w' := by
  refine (loadedOf w a n c l h hl).mono ?_
  rintro e w' ⟨T, rfl, h1, h2, h3⟩
  exact ⟨_, T, rfl, rfl, h1, h2, h3⟩

def LdP2 (q : Int) (im : List (Nm × List Nat)) (w : World) (d i : Nat) (ad : Option Addr) (nd cd : Nat) (U : Int) (wr : World) (e : Ending) (w4 : World) : Prop :=
  e = .returned (.tuple #[]) ∧ w4.cell? ⟨d, 3, none⟩ = some (.int .i64 U) ∧ w4.frozen? ⟨d, 3, none⟩ = false ∧ w4.cell? ⟨wr.heap.size, 1, none⟩ = some (.slice ad nd cd) ∧ ∀ wz, Below w4.heap.size w4 wz → LdS q im w d (i + 1) (wz.setCell ⟨d, 3, none⟩ (.int .i64 (U + (nd : Int))))
def LdP1 (q : Int) (im : List (Nm × List Nat)) (w : World) (d i : Nat) (nm : Nm) (ad : Option Addr) (nd cd : Nat) (U : Int) (wr : World) (e : Ending) (w3 : World) : Prop :=
  ∃ G, e = .returned (.pointer (some ⟨G, 0, none⟩)) ∧ w3.cell? ⟨wr.heap.size, 0, none⟩ = some (.string (str nm)) ∧ w3.cell? ⟨wr.heap.size, 1, none⟩ = some (.slice ad nd cd) ∧ Calls Try.prog 46 #[.pointer (some ⟨d, 0, none⟩), .iface 99 (.agg #[.string (str nm), .pointer (some ⟨G, 0, none⟩)])] w3 (LdP2 q im w d i ad nd cd U wr)
theorem ldRound {q : Int} {im : List (Nm × List Nat)} {w wr : World} {d i nd cd : Nat} {ad : Option Addr} {nm : Nm} {l : List Nat} (h : LdS q im w d i wr) (ho : ImOk im) (hkl : im[i]? = some (nm, l)) (g3 : BytesAt wr (.slice ad nd cd) l) :
    ∃ U : Int, 0 ≤ U ∧ U + (nd : Int) ≤ 1073741824 ∧ Calls Try.prog 47 #[.slice ad nd cd] (wr.alloc (.cells #[.string (str nm), .slice ad nd cd] 86)).drew (LdP1 q im w d i nm ad nd cd U wr) := by
  obtain ⟨xs, k, hx, hk, hb, S, hD, hS⟩ := h
  have hbn : Below wr.heap.size wr (wr.alloc (.cells #[.string (str nm), .slice ad nd cd] 86)) := (Below.refl _ wr).alloc (Nat.le_refl _) _
  have hA0 : (wr.alloc (.cells #[.string (str nm), .slice ad nd cd] 86)).heap[wr.heap.size]? = some (.cells #[.string (str nm), .slice ad nd cd] 86) := by
    show (wr.heap.push _)[wr.heap.size]? = _
    simp
  have hsA : (wr.alloc (.cells #[.string (str nm), .slice ad nd cd] 86)).heap.size = wr.heap.size + 1 := by simp
  generalize wr.alloc (.cells #[.string (str nm), .slice ad nd cd] 86) = wA at *
  have hbd : Below wA.heap.size wA wA.drew := (Below.refl _ wA).drew
  have hnl : nd = l.length := by
    obtain ⟨a9, c9, e9, _⟩ := g3
    cases e9; rfl
  have hlv : ∀ G, k.live G → G < wr.heap.size := fun G hG => Dsk.liveLt (W := w) (d := d) ⟨hb, S, hD, hS⟩ hG
  have hGl : ¬ k.live wA.heap.size := fun hl => by have := hlv _ hl; omega
  obtain ⟨n1, n2, n3, n4⟩ := ho.next hx hk hkl hGl
  have hst : St S wA d k wA.drew := (St.start (hD.later hbn)).below hbd
  refine ⟨k.used, n4, by omega, (loadedG wA.drew ad nd cd l ((g3.later hbn).later hbd) (by omega)).mono ?_⟩
  rintro e w3 ⟨G, T, rfl, hG, hf, hT, hb3⟩
  have hG' : G = wA.heap.size := hG
  subst hG'
  have s3 : St S wA d (k.addFl wA.heap.size ⟨l, l, []⟩) w3 := addFlSt hst hb3 hf hT (Nat.le_refl _)
  have hSr : ∀ x, S x → x < wr.heap.size := hD.rng
  have blk : ∀ w4, Chg S wA w4 → w4.heap[wr.heap.size]? = some (.cells #[.string (str nm), .slice ad nd cd] 86) := fun w4 hc => (hc.block _ (by omega) (fun hs => by have := hSr _ hs; omega)).trans hA0
  have cl : ∀ w4, Chg S wA w4 → w4.cell? ⟨wr.heap.size, 0, none⟩ = some (.string (str nm)) ∧ w4.cell? ⟨wr.heap.size, 1, none⟩ = some (.slice ad nd cd) := fun w4 hc => by
    have := blk w4 hc
    simp [World.cell?, this]
  refine ⟨wA.heap.size, rfl, (cl _ s3.2).1, (cl _ s3.2).2, ?_⟩
  have hm : (nm, l) ∈ im := List.mem_of_getElem? hkl
  have hz : nm.length ≤ maxLen := by
    have := size_list _ (ho.sizes _ hm)
    rwa [str_list] at this
  have hcnt := hk.dok.cnt
  have hfw := hk.dok.few
  have hxl : xs.length ≤ 65536 := by
    have := congrArg List.length hx
    rw [List.length_map, List.length_take] at this
    have := ho.few
    omega
  refine (doDOf w3 d (k.addFl wA.heap.size ⟨l, l, []⟩) _ (DC.mk nm wA.heap.size) s3.1 hz (by show k.L.length < _; omega) (by show k.chg.length ≤ _; omega)).mono ?_
  rintro e w4 ⟨rfl, h4⟩
  have s4 : St S wA d ((k.addFl wA.heap.size ⟨l, l, []⟩).did (DC.mk nm wA.heap.size)) w4 := s3.next h4
  obtain ⟨ms, md, vc, rc, Sf, hm4⟩ := s4.at
  obtain ⟨⟨_, _, _, c3, _, _, _, _, _⟩, ⟨_, _, _, y3, _, _, _, _, _⟩⟩ := dcells hm4.cells
  refine ⟨rfl, c3, y3, (cl _ s4.2).2, fun wz hbz => ⟨_, _, n1, n2, ?_⟩⟩
  have s5 := usesSt (s4.below hbz) (k.used + (nd : Int))
  have e5 : k.load1 nm l wA.heap.size = ((k.addFl wA.heap.size ⟨l, l, []⟩).did (DC.mk nm wA.heap.size)).uses (k.used + (nd : Int)) := by rw [hnl]; rfl
  rw [e5]
  exact Dsk.ofSt (hb.trans (hbn.mono hb.size)) hS s5

set_option maxHeartbeats 4000000 in
set_option maxRecDepth 1000000 in
theorem loadIm (q : Int) (hq : qB q = true) (v : Value) (im : List (Nm × List Nat)) (w : World) (h : ImR w v im) (ho : ImOk im) :
    Calls Try.prog 13 #[v, .int .i64 q] w fun e w' => ∃ xs k d, xs.map (·.1) = im ∧ LdI q xs k ∧ e = .returned (.tuple #[.pointer (some ⟨d, 0, none⟩), .int .i64 0]) ∧ Dsk w d k.settled w' := by
  have hq' : 0 ≤ q ∧ q ≤ 1073741824 := by simpa [qB] using hq
  have HQ : Hid (Calls Try.prog 44 #[.int .i64 q] w fun e w' => e = .returned (.bool true) ∧ w' = w) := by
    have := isQuotaOf q (by omega) (by omega) w
    rwa [hq] at this
  have HIM : Hid (Calls Try.prog 45 #[v] w fun e w' => e = .returned (.bool true) ∧ Below w.heap.size w w') := isImageOk v im w h ho.names ho.sizes ho.up
  have HR : Hid (ImR w v im) := h
  have HO : Hid (ImOk im) := ho
  have HQ2 : Hid (0 ≤ q ∧ q ≤ 1073741824) := hq'
  obtain ⟨a, c, rfl, p1, p2, p3⟩ := h
  have hfew := ho.few
  clear p3 hq hq' ho
  go_enter Try.func13, Try.ntmps13
  go_wp2_with fail
  refine HQ.out.mono ?_
  rintro e w1 ⟨rfl, rfl⟩
  go_wp2_with fail
  refine HIM.out.mono ?_
  rintro e w2 ⟨rfl, hb2⟩
  have HS0 : Hid (LdS q im w1 w2.heap.size 0 (w2.alloc (freshD q))) := ⟨[], Dk.fresh q, by simp, LdI.start HQ2.out.1 HQ2.out.2, hb2.trans (((Below.refl _ w2).alloc (Nat.le_refl _) _).mono hb2.size), _, freshAt w2 q, fun x hx => by subst hx; exact hb2.size⟩
  have hdw : w1.heap.size ≤ w2.heap.size := hb2.size
  clear hb2
  go_wp2_with fail
  go_loopg [23] im.length (fun gk s23 wx => ∃ (i : Nat), i + gk = im.length ∧ s23 = .int .i64 i ∧ Hid (LdS q im w1 w2.heap.size i wx))
  case atStart => exact ⟨0, by omega, rfl, HS0.out⟩
  case round =>
    obtain ⟨i, hi, rfl, HS⟩ := hrel
    generalize hdd : w2.heap.size = d at *
    cases gk with
    | zero =>
      obtain rfl : i = im.length := by omega
      obtain ⟨xs, k, hx, hk, hb, S, hD, hS⟩ := HS.out
      rw [List.take_length] at hx
      have HSE : Hid (Calls Try.prog 34 #[.pointer (some ⟨d, 0, none⟩)] wr fun e w' => e = .returned (.tuple #[]) ∧ Dsk w1 d k.settled w') := by
        refine (settleDOf wr d k S hD hk.dok.dir hk.dok.eq).mono ?_
        rintro e w' ⟨rfl, hst⟩
        exact ⟨rfl, Dsk.ofSt hb hS hst⟩
      have HK : Hid (xs.map (·.1) = im ∧ LdI q xs k) := ⟨hx, hk⟩
      clear hx hk hb hD hS
      go_wp2_with fail
      refine HSE.out.mono ?_
      rintro e w3 ⟨rfl, hs3⟩
      have HS3 : Hid (Dsk w1 d k.settled w3) := hs3
      clear hs3
      go_wp2
      go_ret2
      exact ⟨xs, k, d, HK.out.1, HK.out.2, rfl, HS3.out⟩
    | succ gk1 =>
      have hil : i < im.length := by omega
      have hne : im ≠ [] := by rintro rfl; simp at hil
      obtain ⟨⟨nm, l⟩, hkl⟩ : ∃ p, im[i]? = some p := ⟨_, List.getElem?_eq_getElem hil⟩
      obtain ⟨a0, c0, e0, _, _, f0⟩ := HR.out.after HS.out.below
      obtain ⟨b, eb, f1⟩ := f0 hne
      cases e0
      subst eb
      obtain ⟨ad, nd, cd, g1, g2, g3⟩ := f1 i nm l hkl
      obtain ⟨U, hU0, hU1, hr⟩ := ldRound HS.out HO.out hkl g3
      have HLD : Hid (Calls Try.prog 47 #[.slice ad nd cd] (wr.alloc (.cells #[.string (str nm), .slice ad nd cd] 86)).drew (LdP1 q im w1 d i nm ad nd cd U wr)) := hr
      have hw : IntKind.i64.wrap (U + (nd : Int)) = U + (nd : Int) := by rw [IntKind.wrap_i64]; omega
      clear hr f0 f1 g3 hne hkl
      go_wp2
      go_region_with (first
        | (go_at_call 47
           refine HLD.out.mono ?_
           rintro e w3 ⟨G, rfl, u0, u1, hdo⟩
           have HDO : Hid (Calls Try.prog 46 #[.pointer (some ⟨d, 0, none⟩), .iface 99 (.agg #[.string (str nm), .pointer (some ⟨G, 0, none⟩)])] w3 (LdP2 q im w1 d i ad nd cd U wr)) := hdo
           clear hdo)
        | (go_at_call 46
           refine HDO.out.mono ?_
           rintro e w4 ⟨rfl, y3, z3, y8, hfin⟩
           have HF : Hid (∀ wz, Below w4.heap.size w4 wz → LdS q im w1 d (i + 1) (wz.setCell ⟨d, 3, none⟩ (.int .i64 (U + (nd : Int))))) := hfin
           clear hfin))
      all_goals
        go_wp2
        go_region
        all_goals
          go_wp2
          go_roundg gk1
          case measure => omega
          case rel =>
            refine ⟨i + 1, by omega, by go_num, ?_⟩
            first
              | exact HF.out _ (Below.refl _ _).drew
              | exact HF.out _ (Below.refl _ _)
end Go.Proofs.Ytgffncbmchimdaa

/-! The image of a disk is right. -/
namespace Go.Proofs.Ytgffncbmchimdaa
open Go.RowKit Go.Maps Go.Sort Plain
set_option linter.unusedVariables false
set_option linter.unusedSimpArgs false

theorem imgL_names {σ : Type} (L : Dir) (B : σ → Nat → List Nat) (nx : σ → Nat → σ) : ∀ (ks : List Nm) (s : σ), (imgL L B nx s ks).map (·.1) = ks
  | [], s => rfl
  | x :: ks, s => by rw [imgL, List.map_cons, imgL_names L B nx ks]
theorem imK_names (k : Dk) : (imK k).map (·.1) = nms k.L := imgL_names _ _ _ _ _
theorem leB_false {a b : Nm} (h : a ≤ b) (hne : a ≠ b) : leB b a = false := by
  unfold leB
  rw [bytesLess_eq]
  have e : ∀ x : Nm, (str x).toList = x := fun x => by rw [ByteArray.toList_eq, str_list]
  rw [e, e]
  have h1 : ¬ b < a := List.not_lt.mpr h
  have h2 : (b == a) = false := beq_eq_false_iff_ne.mpr (Ne.symm hne)
  rw [h2, decide_eq_false h1]; rfl
theorem nms_nodup {k : Dk} (h : k.Sum) : (nms k.L).Nodup := (srt_perm _).nodup_iff.mpr h.keys
theorem Dk.imOk {k : Dk} {n : Nat} (h : k.Good n) (hn : k.Nmd) : ImOk (imK k) := by
  have hmem : ∀ p ∈ imK k, p.1 ∈ nms k.L := fun p hp => imK_names k ▸ List.mem_map_of_mem hp
  have hnm : ∀ p ∈ imK k, nmL p.1 = true := fun p hp => hn _ (fileOf_mem (hmem p hp))
  refine ⟨?_, hnm, ?_, ?_, ?_, ?_⟩
  · have := congrArg List.length (imK_names k)
    rw [List.length_map, nms_len] at this
    rw [this]; exact h.dok.few
  · intro p hp
    have h1 := hnm p hp
    refine Decidable.byContradiction fun hc => ?_
    have h2 := nm_size (s := str p.1) (.inr (by unfold maxLen at hc; omega))
    rw [str_list] at h2
    rw [h2] at h1
    cases h1
  · intro i p q hp hq
    have hnd := nms_nodup h.sum
    have hpw := srt_pw (k.L.map (·.1))
    have e1 : (nms k.L)[i]? = some p.1 := by rw [← imK_names, List.getElem?_map, hp]; rfl
    have e2 : (nms k.L)[i + 1]? = some q.1 := by rw [← imK_names, List.getElem?_map, hq]; rfl
    obtain ⟨l1, f1⟩ := List.getElem?_eq_some_iff.mp e1
    obtain ⟨l2, f2⟩ := List.getElem?_eq_some_iff.mp e2
    have h1 : p.1 ≤ q.1 := by
      rw [← f1, ← f2]
      exact List.pairwise_iff_getElem.mp hpw i (i + 1) l1 l2 (by omega)
    have h2 : p.1 ≠ q.1 := by
      rw [← f1, ← f2]
      exact List.pairwise_iff_getElem.mp hnd i (i + 1) l1 l2 (by omega)
    exact leB_false h1 h2
  · rw [imK_names]; exact nms_nodup h.sum
  · have h1 := h.sum.lim
    have h2 := h.sum.used
    have h3 := imK_total h.sum.keys
    unfold imT at h3
    omega
end Go.Proofs.Ytgffncbmchimdaa

/-! A disk that is settled and one that its image was loaded into are alike. -/
namespace Go.Proofs.Ytgffncbmchimdaa
open Go.RowKit Go.Maps Plain
set_option linter.unusedVariables false
set_option linter.unusedSimpArgs false

/-- The names rise, as the map's listing has them. -/
def Up (L : Dir) : Prop := L.Pairwise (fun p q => bytesBefore p.1 q.1 = true)
theorem up_del {L : Dir} (h : Up L) (k : Nm) : Up (del L k) := List.Pairwise.filter _ h
theorem up_ins {x : Nm × Nat} : ∀ {L : Dir}, Up L → (∀ p ∈ L, p.1 ≠ x.1) → Up (ins x L)
  | [], h, hn => by simp [Up, ins]
  | y :: r, h, hn => by
    unfold ins
    have h1 := List.pairwise_cons.mp h
    by_cases e : (Lit.string x.1).before (.string y.1) = true
    · rw [if_pos e]
      refine List.pairwise_cons.mpr ⟨fun z hz => ?_, h⟩
      rcases List.mem_cons.mp hz with rfl | hz
      · exact e
      · exact WideShapes.bytes_trans _ _ _ e (h1.1 z hz)
    · rw [if_neg e]
      refine List.pairwise_cons.mpr ⟨fun z hz => ?_, up_ins h1.2 (fun p hp => hn p (List.mem_cons_of_mem _ hp))⟩
      rcases mem_ins hz with rfl | hz
      · rcases WideAt.bytes_total y.1 z.1 (hn y (List.mem_cons_self ..)) with h2 | h2
        · exact h2
        · exact (e h2).elim
      · exact h1.1 z hz
theorem up_put {L : Dir} (h : Up L) (k : Nm) (g : Nat) : Up (put L k g) := up_ins (up_del h k) (fun p hp => by
  have := (List.mem_filter.mp hp).2
  simpa using this)
theorem up_on {L : Dir} (h : Up L) (c : DC) : Up (DC.on L c) := by
  cases c using DC.elim with
  | mk k g => exact up_put h k g
  | mv a b =>
    rw [DC.on_mv]
    cases e : look L a with
    | none => exact h
    | some g => exact up_del (up_put h b g) a
  | rm k => exact up_del h k
theorem up_dst : ∀ (cs : List DC) {L : Dir}, Up L → Up (dst L cs)
  | [], L, h => h
  | c :: cs, L, h => up_dst cs (up_on h c)
/-- What has been durable rises: so does what is seen. -/
theorem Dk.up {k : Dk} {n : Nat} (hk : k.Dok n) (h : Up k.Ld) : Up k.L := by rw [hk.eq]; exact up_dst _ h
theorem chK_upd {k : Dk} {n G : Nat} {kd m : Int} {nm to' : ByteArray} {l : List Nat} (hk : k.Dok n) (h : Up k.Ld) : Up (chK k kd nm to' m l G).2.Ld := by
  have hL := Dk.up hk h
  unfold chK
  split
  · unfold createK
    split
    · exact h
    split
    · exact h
    split
    · exact h
    split
    · exact h
    · exact h
  split
  · unfold appendK
    split
    · split
      · exact h
      split
      · split
        · exact h
        · exact h
      · exact h
    · exact h
  split
  · unfold truncK
    split
    · split
      · split
        · exact h
        split
        · exact h
        · exact h
      · exact h
    · exact h
  split
  · unfold syncK
    split
    · split
      · split
        · exact h
        · exact h
      · exact h
    · exact h
  split
  · unfold syncDirK
    split
    · exact h
    split
    · exact hL
    · exact h
  split
  · unfold renameK
    split
    · exact h
    split
    · exact h
    split
    · split
      · exact h
      · exact h
    · exact h
  · unfold removeK
    split
    · split
      · exact h
      · exact h
    · exact h
theorem up_keys {L M : Dir} (h1 : Up L) (h2 : Up M) (hp : (L.map (·.1)).Perm (M.map (·.1))) : L.map (·.1) = M.map (·.1) := by
  refine List.Perm.eq_of_pairwise (le := fun a b => bytesBefore a b = true) (fun a b ha hb e1 e2 => ?_) (List.pairwise_map.mpr h1) (List.pairwise_map.mpr h2) hp
  have := WideShapes.bytes_trans _ _ _ e1 e2
  rw [WideAt.bytes_irrefl] at this
  cases this
theorem DirR.zip {R : Rel} : ∀ {L M : Dir}, L.map (·.1) = M.map (·.1) → (∀ p ∈ L, ∀ q ∈ M, p.1 = q.1 → R p.2 q.2) → DirR R L M
  | [], [], h, hR => trivial
  | p :: L, q :: M, h, hR => by
    rw [List.map_cons, List.map_cons] at h
    have h1 := (List.cons.inj h)
    exact ⟨⟨h1.1, hR p (List.mem_cons_self ..) q (List.mem_cons_self ..) h1.1⟩, DirR.zip h1.2 (fun a ha b hb => hR a (List.mem_cons_of_mem _ ha) b (List.mem_cons_of_mem _ hb))⟩
  | [], q :: M, h, hR => by simp at h
  | p :: L, [], h, hR => by simp at h
theorem imgL_data (L : Dir) (B : Unit → Nat → List Nat) (nx : Unit → Nat → Unit) : ∀ (ks : List Nm) (s : Unit) (p : Nm × List Nat), p ∈ imgL L B nx s ks → p.2 = B () (fileOf L p.1)
  | [], s, p, hp => by simp [imgL] at hp
  | x :: ks, s, p, hp => by
    rw [imgL] at hp
    rcases List.mem_cons.mp hp with rfl | hp
    · rfl
    · exact imgL_data L B nx ks _ p hp
theorem loaded_sib {k k2 : Dk} {n : Nat} {q : Int} {xs : List ((Nm × List Nat) × Nat)} (h : k.Good n) (hs : k.Still) (hu : Up k.Ld) (hx : xs.map (·.1) = imK k) (h2 : LdI q xs k2) (hq : k.quota = q) : ∃ R, Sib R k k2.settled := by
  have hLd : k.Ld = k.L := by rw [h.dok.eq, hs.dir]; rfl
  have hup : Up k.L := hLd ▸ hu
  have hup2 : Up k2.L := Dk.up h2.dok (by rw [h2.Ld]; exact List.Pairwise.nil)
  have hk2 : (k2.L.map (·.1)).Perm (nms k.L) := by
    have e1 := h2.perm.map (·.1)
    rw [List.map_map] at e1
    have e2 : xs.map ((fun p : Nm × Nat => p.1) ∘ fun x => (x.1.1, x.2)) = nms k.L := by
      rw [← imK_names, ← hx, List.map_map]; rfl
    rw [e2] at e1
    exact e1
  have hkeys : k.L.map (·.1) = k2.L.map (·.1) := up_keys hup hup2 ((srt_perm _).symm.trans hk2.symm)
  have hfile : ∀ p ∈ k.L, ∀ p2 ∈ k2.L, p.1 = p2.1 → k.file p.2 = k2.file p2.2 := by
    intro p hp p2 hp2 e
    obtain ⟨x, hx1, hx2⟩ := List.mem_map.mp (h2.perm.mem_iff.mp hp2)
    have hf := (h2.file x hx1).2
    have hxm : x.1 ∈ imK k := hx ▸ List.mem_map_of_mem hx1
    have hd : x.1.2 = (k.file (fileOf k.L x.1.1)).seen := imgL_data _ _ _ _ _ _ hxm
    have hp1 : x.1.1 = p.1 := by rw [e, ← hx2]
    have hfo : fileOf k.L p.1 = p.2 := by unfold fileOf; rw [look_of_mem h.sum.keys hp]; rfl
    rw [← hx2]
    show k.file p.2 = k2.file x.2
    rw [hf, hd, hp1, hfo]
    have hok := (h.dok.ok.fok _ (h.dok.ok.refs p hp)).1
    have hc := hs.file p hp
    have he := hok.eq
    rw [hc] at he
    have hdur : (k.file p.2).dur = (k.file p.2).seen := he.symm
    show k.file p.2 = ⟨(k.file p.2).seen, (k.file p.2).seen, []⟩
    generalize k.file p.2 = f at *
    cases f
    simp at hc hdur
    rw [hc, hdur]
  have hD : DirR (fun a b => ∃ nm, (nm, a) ∈ k.L ∧ (nm, b) ∈ k2.L) k.L k2.L := DirR.zip hkeys (fun p hp p2 hp2 e => ⟨p.1, hp, by rw [e]; exact hp2⟩)
  refine ⟨fun a b => ∃ nm, (nm, a) ∈ k.L ∧ (nm, b) ∈ k2.L, ⟨?_, ?_, ?_, hD, by rw [hLd]; exact hD, by rw [hs.dir]; exact trivial, ?_, by rw [hq]; exact h2.quota.symm⟩⟩
  · rintro a b a' b' ⟨nm, h3, h4⟩ ⟨nm', h5, h6⟩
    constructor
    · rintro rfl
      have := look_inj h.sum.files h3 h5 rfl
      cases this
      exact keys_inj h2.sum.keys h4 h6
    · rintro rfl
      have := look_inj h2.sum.files h4 h6 rfl
      cases this
      exact keys_inj h.sum.keys h3 h5
  · rintro a b ⟨nm, h3, h4⟩
    exact ⟨h.dok.ok.refs _ h3, h2.dok.ok.refs _ h4⟩
  · rintro a b ⟨nm, h3, h4⟩
    exact hfile _ h3 _ h4 rfl
  · show k.used = k2.used
    rw [h2.used, h.sum.used, ← imK_total h.sum.keys, ← hx]
    unfold imT
    rw [List.map_map]; rfl
end Go.Proofs.Ytgffncbmchimdaa

/-! SimfsSettled: what is true of the disk from its beginning on. -/
namespace Go.Proofs.Ytgffncbmchimdaa
open Go.RowKit Go.Maps Plain
set_option linter.unusedVariables false
set_option linter.unusedSimpArgs false

structure SInv (k : Dk) (n : Nat) : Prop where
  good : k.Good n
  past : k.Past
  nmd : k.Nmd
  up : Up k.Ld
theorem SInv.mono {k : Dk} {n m : Nat} (h : SInv k n) (hm : n ≤ m) : SInv k m := ⟨h.good.mono hm, h.past, h.nmd, h.up⟩
theorem SInv.chK {k : Dk} {n G : Nat} {kd m : Int} {nm to' : ByteArray} {l : List Nat} (h : SInv k n) (hs : nm.size ≤ maxLen) (ht : to'.size ≤ maxLen) (hn : n ≤ 4398046511102) (hG : ¬ k.live G) : SInv (chK k kd nm to' m l G).2 (n + 1) :=
  ⟨h.good.chK hs ht hn hG, h.past.chK h.good.dok, h.nmd.chK, chK_upd h.good.dok h.up⟩
theorem bg_inv (q : Int) (G : Nat) (hg : (bg q G).Good 2) : SInv (bg q G) 2 := by
  have e1L : ∀ q, (e1 q G).Nmd ∧ Up (e1 q G).Ld := fun q => ⟨fun p hp => by
    have : p = (kF, G) := List.mem_singleton.mp hp
    subst this
    exact (by decide : nmL kF = true), List.Pairwise.nil⟩
  have e2L : (e2 q G).Nmd ∧ Up (e2 q G).Ld := ⟨fun p hp => by
    have : p = (kF, G) := List.mem_singleton.mp hp
    subst this
    exact (by decide : nmL kF = true), List.Pairwise.nil⟩
  have : (bg q G).Nmd ∧ Up (bg q G).Ld := by
    unfold bg
    split
    · exact e1L 0
    · exact e2L
  exact ⟨hg, bg_past q G, this.1, this.2⟩
/-- i of the names have been synced; the directory too. -/
theorem SyI.inv {L : Dir} {i n : Nat} {k : Dk} (h : SyI L i n k) (hu : Up k.Ld) : SInv k (n + i) := ⟨h.good, h.past, h.nmd, hu⟩
theorem SyI.finish {L : Dir} {n G : Nat} {k : Dk} (h : SyI L (nms L).length n k) (hu : Up k.Ld) (hG : ¬ k.live G) (hn : n + (nms L).length ≤ 4398046511102) : (syncDirK k).1 = 0 ∧ (syncDirK k).2.Still ∧ SInv (syncDirK k).2 (n + (nms L).length + 1) := by
  obtain ⟨h1, h2, h3, h4, h5⟩ := h.done hG hn
  exact ⟨h1, h2, h3, h4, h5, chK_upd (kd := 5) (nm := str []) (to' := str []) (m := 0) (l := []) (G := G) h.good.dok hu⟩
/-- Two disks that go the same way, what lasts of both still the image im. -/
structure TInv (im : List (Nm × List Nat)) (k1 k2 : Dk) (n m : Nat) : Prop where
  one : SInv k1 n
  two : SInv k2 m
  sib : ∃ R, Sib R k1 k2
  du1 : duK k1 = im
  du2 : duK k2 = im
theorem TInv.begin {k k2 : Dk} {n : Nat} {q : Int} {xs : List ((Nm × List Nat) × Nat)} (h : SInv k n) (hs : k.Still) (hx : xs.map (·.1) = imK k) (h2 : LdI q xs k2) (hq : k.quota = q) : TInv (imK k) k k2.settled n xs.length := by
  obtain ⟨g1, g2, g3, g4⟩ := h2.done
  have hsib := loaded_sib h.good hs h.up hx h2 hq
  obtain ⟨R, hR⟩ := hsib
  refine ⟨h, ⟨g1, g2, g3, Dk.up h2.dok (by rw [h2.Ld]; exact List.Pairwise.nil)⟩, ⟨R, hR⟩, ?_, ?_⟩
  · rw [← crK_none]; exact hs.crash h.good.dok []
  · rw [← crK_none, g4.crash g1.dok [], hR.image]
theorem TInv.step {im : List (Nm × List Nat)} {k1 k2 : Dk} {n m' A B : Nat} {kd m : Int} {nm to' : ByteArray} {l : List Nat} (h : TInv im k1 k2 n m') (hs : nm.size ≤ maxLen) (ht : to'.size ≤ maxLen) (hn : n ≤ 4398046511102) (hm : m' ≤ 4398046511102) (hA : ¬ k1.live A) (hB : ¬ k2.live B) (h4 : kd ≠ 4) (h5 : kd ≠ 5) :
    (chK k1 kd nm to' m l A).1 = (chK k2 kd nm to' m l B).1 ∧ TInv im (chK k1 kd nm to' m l A).2 (chK k2 kd nm to' m l B).2 (n + 1) (m' + 1) := by
  obtain ⟨R, hR⟩ := h.sib
  obtain ⟨e, R', hR'⟩ := chK_R (kd := kd) (m := m) (nm := nm) (to := to') (l := l) hR (by rw [h.one.good.on.dead, h.two.good.on.dead]) h.one.good.on.can h.two.good.on.can hA hB
  exact ⟨e, h.one.chK hs ht hn hA, h.two.chK hs ht hm hB, ⟨R', hR'⟩, by rw [duK_chK h.one.past hA h4 h5]; exact h.du1, by rw [duK_chK h.two.past hB h4 h5]; exact h.du2⟩
/-- What the law asks of both at the end. -/
theorem TInv.ends {im : List (Nm × List Nat)} {k1 k2 : Dk} {n m : Nat} (h : TInv im k1 k2 n m) (ps : List Int) : crK k1 [] = im ∧ crK k2 [] = im ∧ imK k1 = imK k2 ∧ crK k1 ps = crK k2 ps := by
  obtain ⟨R, hR⟩ := h.sib
  exact ⟨by rw [crK_none, h.du1], by rw [crK_none, h.du2], hR.image, hR.crash ps⟩
end Go.Proofs.Ytgffncbmchimdaa

/-! The law's own copy of an image. -/
namespace Go.Proofs.Ytgffncbmchimdaa
open Go.RowKit Go.Maps Plain
set_option linter.unusedVariables false
set_option linter.unusedSimpArgs false

theorem step_append_bytes {ops : Array Oper} {o : Oper} {a : Act} {w : World} {K : Act → World → Prop} {Q : Exit → Act → World → Prop} {E : Prop}
    (hg : o.guard = none) (s x : Operand) (t tx : TypeId) (hop : o.op = Op.call { callee := Callee.builtin Builtin.append, args := #[s, x], argTypes := #[t, tx] }) (ht : Try.prog.underlying t = some (.slice 5)) (v xv : Value) (l k : List Nat) (r : Option Nat)
    (hs : a.eval s = v) (hx : a.eval x = xv) (hown : Own w v l r) (hk : ∀ c ∈ k, c < 256) (hsrc : Src Try.prog 1 tx xv k.length (cellsOf k) w) (hlen : l.length + k.length ≤ 140737488355328)
    (hK : ∀ v' w' r', Own w' v' (l ++ k) r' → w.grownBy w' r → (r' = r ∨ r' = some w.heap.size) → K (a.put o.dst v') w') :
    if Region.wanted o (yielded ops a.tmps) = true then Oper.wp Try.prog o a w K Q else E := by
  have hw : Region.wanted o (yielded ops a.tmps) = true := by simp [Region.wanted, hg]
  rw [if_pos hw]
  obtain ⟨v', w', r', hrun, h1, h2, h3, h4⟩ := run_append_row w t tx o.type ht v xv l k r hown hk hsrc hlen
  unfold Oper.wp
  simp [execOp, hop, resolve, invoke, builtin, hs, hx, hrun, Result.andThen]
  exact hK v' w' r' h1 h2 h3
theorem step_append_files {ops : Array Oper} {o : Oper} {a : Act} {w : World} {K : Act → World → Prop} {Q : Exit → Act → World → Prop} {E : Prop}
    (hg : o.guard = none) (s x : Operand) (hop : o.op = .call { callee := .builtin .append, args := #[s, x], argTypes := #[38, 38] }) (v xv : Value) (ts : List Fi) (ks : List Fi) (r : Option Nat)
    (hs : a.eval s = v) (hx : a.eval x = xv) (hown : OwnI w v ts r) (hsrc : Src Try.prog 2 38 xv ks.length (icells ks) w) (hlen : ts.length + ks.length ≤ 2199023255552) (hr0 : r ≠ none ∨ 0 < ks.length)
    (hK : ∀ v' w' g, OwnI w' v' (ts ++ ks) (some g) → w.grownBy w' r → (some g = r ∨ g = w.heap.size) → K (a.put o.dst v') w') :
    if Region.wanted o (yielded ops a.tmps) = true then Oper.wp Try.prog o a w K Q else E := by
  have hw : Region.wanted o (yielded ops a.tmps) = true := by simp [Region.wanted, hg]
  rw [if_pos hw]
  obtain ⟨v', w', g, hrun, h1, h2, h3⟩ := run_append_files w o.type v xv ts ks r hown hsrc hlen hr0
  unfold Oper.wp
  simp [execOp, hop, resolve, invoke, builtin, hs, hx, hrun, Result.andThen]
  exact hK v' w' g h1 h2 h3

/-- Behind k files. -/
def TwS (im : List (Nm × List Nat)) (w : World) (k : Nat) (v : Value) (wx : World) : Prop := ∃ ts r blk, ImgM wx v (im.take k) w.heap.size ts r blk ∧ Below w.heap.size w wx

set_option maxHeartbeats 4000000 in
set_option maxRecDepth 1000000 in
theorem twinOf (v : Value) (im : List (Nm × List Nat)) (w : World) (h : ImR w v im) (hfew : im.length ≤ 65536) (hlim : ∀ p ∈ im, p.2.length ≤ 1073741824) :
    Calls Try.prog 14 #[v] w fun e w' => ∃ a l c, e = .returned (.slice a l c) ∧ ImgAt w' (.slice a l c) im w.heap.size ∧ Below w.heap.size w w' := by
  have HR : Hid (ImR w v im) := h
  have HL : Hid (∀ p ∈ im, p.2.length ≤ 1073741824) := hlim
  obtain ⟨a, c, rfl, p1, p2, p3⟩ := h
  have HT0 : Hid (TwS im w 0 (.slice none 0 0) w) := ⟨[], none, fun _ => none, ⟨.inl ⟨rfl, rfl, rfl⟩, by simp, by simp, by simp, by simp, by simp, by simp⟩, Below.refl _ _⟩
  clear p3 hlim
  go_enter Try.func14, Try.ntmps14
  go_wp2
  go_loopg [3, 4] im.length (fun gk s3 s4 wx => ∃ (k : Nat) (a3 : Option Addr) (n3 c3 : Nat), k + gk = im.length ∧ s4 = .int .i64 k ∧ s3 = .slice a3 n3 c3 ∧ Hid (TwS im w k (.slice a3 n3 c3) wx))
  case atStart => exact ⟨0, _, _, _, by omega, rfl, rfl, HT0.out⟩
  case round =>
    obtain ⟨k, a3, n3, c3, hk, rfl, rfl, HT⟩ := hrel
    cases gk with
    | zero =>
      obtain rfl : k = im.length := by omega
      go_wp2
      go_ret
      obtain ⟨ts, r, blk, h1, h2⟩ := HT.out
      rw [List.take_length] at h1
      exact ⟨_, _, _, rfl, ⟨ts, r, blk, h1⟩, h2⟩
    | succ gk1 =>
      have hkl : k < im.length := by omega
      have hne : im ≠ [] := by rintro rfl; simp at hkl
      obtain ⟨⟨nm, l⟩, hnl⟩ : ∃ p, im[k]? = some p := ⟨_, List.getElem?_eq_getElem hkl⟩
      obtain ⟨ts, r, blk, h1, h2⟩ := HT.out
      obtain ⟨a0, c0, e0, _, _, f0⟩ := HR.out.after h2
      obtain ⟨b, eb, f1⟩ := f0 hne
      cases e0
      subst eb
      obtain ⟨ad, nd, cd, g1, g2, g3⟩ := f1 k nm l hnl
      have hll := HL.out _ (List.mem_of_getElem? hnl)
      have hbA : Below wr.heap.size wr (wr.alloc (.cells #[] 5)).drew := ((Below.refl _ wr).alloc (Nat.le_refl _) _).drew
      have HSRC : Hid (BytesAt (wr.alloc (.cells #[] 5)).drew (.slice ad nd cd) l) := g3.later hbA
      have HALL : Hid (∀ w' : World, (wr.alloc (.cells #[] 5)).drew.grownBy w' (some wr.heap.size) → Below wr.heap.size wr w' ∧ wr.heap.size < w'.heap.size) := fun w' hg => by
        refine ⟨hbA.trans (grow_below hg (by simp) (by simp)), ?_⟩
        have := hg.size
        simp at this
        omega
      have HCL : Hid (∀ w' : World, Below wr.heap.size wr w' → w'.cell? ⟨b, k * 2, none⟩ = some (.string (str nm)) ∧ w'.cell? ⟨b, k * 2 + 1, none⟩ = some (.slice ad nd cd)) := fun w' hb => ⟨(hb.cell (cell_lt g1)).trans g1, (hb.cell (cell_lt g2)).trans g2⟩
      have HM : Hid (ImgM wr (.slice a3 n3 c3) (im.take k) w.heap.size ts r blk ∧ Below w.heap.size w wr ∧ im.take (k + 1) = im.take k ++ [(nm, l)] ∧ ts.length = k) := ⟨h1, h2, by
        obtain ⟨hl', e⟩ := List.getElem?_eq_some_iff.mp hnl
        rw [List.take_succ_eq_append_getElem hl', e], by rw [h1.len, List.length_take]; omega⟩
      have HOE : Hid (Own (wr.alloc (.cells #[] 5)).drew (.slice (some ⟨wr.heap.size, 0, none⟩) 0 0) [] (some wr.heap.size)) := (Own.empty wr 5).later (Below.refl _ _).drew
      have g1a : (wr.alloc (.cells #[] 5)).cell? ⟨b, k * 2, none⟩ = some (.string (str nm)) := (((Below.refl _ wr).alloc (Nat.le_refl _) _).cell (cell_lt g1)).trans g1
      have g2a : (wr.alloc (.cells #[] 5)).cell? ⟨b, k * 2 + 1, none⟩ = some (.slice ad nd cd) := (((Below.refl _ wr).alloc (Nat.le_refl _) _).cell (cell_lt g2)).trans g2
      clear h1 h2 f0 f1 g3 hne hnl
      go_wp2
      go_region_law (first
        | (refine step_append_bytes rfl (.tmp 17) (.tmp 22) 27 27 rfl Try.underlying27 (.slice (some ⟨wr.heap.size, 0, none⟩) 0 0) (.slice ad nd cd) [] l (some wr.heap.size) (by first | rfl | simp [Act.eval, Act.put]) (by first | rfl | simp [Act.eval, Act.put]) HOE.out HSRC.out.byte (src_of Try.underlying27 HSRC.out) (by simp; omega) ?_
           intro v6 w6 r6 ho6 hg6 hr6
           obtain ⟨hb6, hs6⟩ := HALL.out w6 hg6
           obtain ⟨y0, y1⟩ := HCL.out w6 hb6
           obtain ⟨a6, c6, rfl⟩ := own_slice ho6
           have H6 : Hid (Own w6 (.slice a6 ([] ++ l).length c6) ([] ++ l) r6 ∧ Below wr.heap.size wr w6 ∧ (∀ g, r6 = some g → wr.heap.size ≤ g)) := ⟨ho6, hb6, fun g e => by
             rcases hr6 with h | h
             · rw [h] at e; cases e; exact Nat.le_refl _
             · rw [h] at e; cases e; simp⟩
           clear ho6 hg6 hr6 hb6)
        | (refine step_append_files rfl (.tmp 11) (.tmp 25) rfl (.slice a3 n3 c3) _ ts [⟨str nm, .slice a6 ([] ++ l).length c6⟩] r (by first | rfl | simp [Act.eval, Act.put]) (by first | rfl | simp [Act.eval, Act.put]) ((HM.out.1.later H6.out.2.1).row.later ((Below.refl _ _).alloc (Nat.le_refl _) _)) (src_file w6 (str nm) a6 ([] ++ l).length c6) (by have := HM.out.2.2.2; simp; omega) (.inr (by simp)) ?_
           intro v4 w4 g4 ho4 hg4 hr4))
      all_goals
        obtain ⟨a4, c4, rfl, -, -⟩ := ho4.shape
        have HN : Hid (TwS im w (k + 1) (.slice a4 (ts ++ [(⟨str nm, .slice a6 ([] ++ l).length c6⟩ : Fi)]).length c4) w4) := by
          obtain ⟨d1, d2, d3⟩ := H6.out
          obtain ⟨c1, c2, c3', c4'⟩ := HM.out
          have hw := c2.size
          have hs67 : (w6.alloc (.cells #[.string (str nm), .slice a6 ([] ++ l).length c6] 86)).heap.size = w6.heap.size + 1 := by simp
          have hb67 : Below w6.heap.size w6 (w6.alloc (.cells #[.string (str nm), .slice a6 ([] ++ l).length c6] 86)) := (Below.refl _ _).alloc (Nat.le_refl _) _
          have hp := ((c1.later d2).later hb67).push (d1.later hb67) (k := nm) (fun g e => by
            have h1 := d3 g e
            refine ⟨by omega, fun e2 => ?_, fun j e2 => ?_⟩
            · rw [e2] at c1; have := c1.row.lt; omega
            · have := c1.live e2; omega) ho4 hg4 (by simpa using hr4) (by omega)
          refine ⟨_, _, _, by rw [c3']; exact hp, ?_⟩
          exact (c2.trans (d2.mono hw)).trans ((hb67.mono (by omega)).trans (grow_below hg4 (by omega) (fun g e => c1.rbase g e)))
        have HN2 : Hid (TwS im w (k + 1) (.slice a4 (ts.length + 1) c4) w4) := by
          have := HN.out
          rw [List.length_append, List.length_singleton] at this
          exact this
        clear ho4 hg4 hr4 HN
        go_wp2
        go_roundg gk1
        case measure => omega
        case rel => exact ⟨k + 1, _, _, _, by omega, by go_num, rfl, HN2.out⟩
end Go.Proofs.Ytgffncbmchimdaa

/-! A changing step, over a disk that has nothing to do with some blocks. -/
namespace Go.Proofs.Ytgffncbmchimdaa
open Go.RowKit Go.Maps Plain
set_option linter.unusedVariables false
set_option linter.unusedSimpArgs false

abbrev ChPostP (P : Nat → Prop) (W : World) (d : Nat) (f : Nat → Int × Dk) (w1 : World) : Ending → World → Prop := fun e w2 => ∃ G, w1.heap.size ≤ G ∧ e = .returned (.tuple #[.int .i64 (f G).1, .bool true]) ∧ DskP P W d (f G).2 w2

set_option maxHeartbeats 1000000 in
set_option maxRecDepth 1000000 in
theorem changeCreateP {P : Nat → Prop} {W w : World} {d n : Nat} {k : Dk} (nm to : ByteArray) (at' m : Int) (vb vp : Value) (h : DskP P W d k w) (hs : nm.size ≤ maxLen) (hk : k.Dok n) (hn : n ≤ 4398046511103) :
    Calls Try.prog 6 #[.pointer (some ⟨d, 0, none⟩), .agg #[.int .i64 1, .string nm, .string to, .int .i64 at', .int .i64 m, vb, vp]] w (ChPostP P W d (createK k nm) w) := by
  have HC : Hid (∀ w1, Below w.heap.size w w1 → Calls Try.prog 21 #[.pointer (some ⟨d, 0, none⟩), .string nm] w1 fun e w2 => ∃ G, w1.heap.size ≤ G ∧ PPost P W d (createK k nm G) e w2) := fun w1 hb => createP (h.later hb) hs hk hn
  clear h hk
  go_enter Try.func6, Try.ntmps6
  go_wp2_with fail
  refine (HC.out _ ((Below.refl _ _).alloc (Nat.le_refl _) _)).mono ?_
  rintro e w1 ⟨G, hG, rfl, h1⟩
  have HP : Hid (ChPostP P W d (createK k nm) w (.returned (.tuple #[.int .i64 (createK k nm G).1, .bool true])) w1) := ⟨G, by simp at hG; omega, rfl, h1⟩
  clear h1
  generalize (createK k nm G).1 = z at *
  go_wp2
  go_ret2
  exact HP.out

set_option maxHeartbeats 1000000 in
set_option maxRecDepth 1000000 in
theorem changeTruncP {P : Nat → Prop} {W w : World} {d n : Nat} {k : Dk} (nm to : ByteArray) (at' m : Int) (vb vp : Value) (h : DskP P W d k w) (hs : nm.size ≤ maxLen) (hm : I64 m) (hk : k.Dok n) (hu : k.Uok) (hn : n ≤ 4398046511103) :
    Calls Try.prog 6 #[.pointer (some ⟨d, 0, none⟩), .agg #[.int .i64 3, .string nm, .string to, .int .i64 at', .int .i64 m, vb, vp]] w (ChPostP P W d (fun _ => truncK k nm m) w) := by
  have HC : Hid (∀ w1, Below w.heap.size w w1 → Calls Try.prog 26 #[.pointer (some ⟨d, 0, none⟩), .string nm, .int .i64 m] w1 (PPost P W d (truncK k nm m))) := fun w1 hb => truncP (h.later hb) hs hm hk hu hn
  clear h hk hu
  go_enter Try.func6, Try.ntmps6
  go_wp2_with fail
  refine (HC.out _ ((Below.refl _ _).alloc (Nat.le_refl _) _)).mono ?_
  rintro e w1 ⟨rfl, h1⟩
  have HP : Hid (ChPostP P W d (fun _ => truncK k nm m) w (.returned (.tuple #[.int .i64 (truncK k nm m).1, .bool true])) w1) := ⟨_, Nat.le_refl _, rfl, h1⟩
  clear h1
  generalize (truncK k nm m).1 = z at *
  go_wp2
  go_ret2
  exact HP.out

set_option maxHeartbeats 1000000 in
set_option maxRecDepth 1000000 in
theorem changeSyncP {P : Nat → Prop} {W w : World} {d n : Nat} {k : Dk} (nm to : ByteArray) (at' m : Int) (vb vp : Value) (h : DskP P W d k w) (hs : nm.size ≤ maxLen) (hk : k.Dok n) (hn : n ≤ 4398046511103) :
    Calls Try.prog 6 #[.pointer (some ⟨d, 0, none⟩), .agg #[.int .i64 4, .string nm, .string to, .int .i64 at', .int .i64 m, vb, vp]] w (ChPostP P W d (fun _ => syncK k nm) w) := by
  have HC : Hid (∀ w1, Below w.heap.size w w1 → Calls Try.prog 8 #[.pointer (some ⟨d, 0, none⟩), .string nm] w1 (PPost P W d (syncK k nm))) := fun w1 hb => syncP (h.later hb) hs hk hn
  clear h hk
  go_enter Try.func6, Try.ntmps6
  go_wp2_with fail
  refine (HC.out _ ((Below.refl _ _).alloc (Nat.le_refl _) _)).mono ?_
  rintro e w1 ⟨rfl, h1⟩
  have HP : Hid (ChPostP P W d (fun _ => syncK k nm) w (.returned (.tuple #[.int .i64 (syncK k nm).1, .bool true])) w1) := ⟨_, Nat.le_refl _, rfl, h1⟩
  clear h1
  generalize (syncK k nm).1 = z at *
  go_wp2
  go_ret2
  exact HP.out

set_option maxHeartbeats 1000000 in
set_option maxRecDepth 1000000 in
theorem changeSyncDirP {P : Nat → Prop} {W w : World} {d n : Nat} {k : Dk} (nm to : ByteArray) (at' m : Int) (vb vp : Value) (h : DskP P W d k w) (hk : k.Dok n) (hn : n ≤ 4398046511103) :
    Calls Try.prog 6 #[.pointer (some ⟨d, 0, none⟩), .agg #[.int .i64 5, .string nm, .string to, .int .i64 at', .int .i64 m, vb, vp]] w (ChPostP P W d (fun _ => syncDirK k) w) := by
  have HC : Hid (∀ w1, Below w.heap.size w w1 → Calls Try.prog 9 #[.pointer (some ⟨d, 0, none⟩)] w1 (PPost P W d (syncDirK k))) := fun w1 hb => syncDirP (h.later hb) hk hn
  clear h hk
  go_enter Try.func6, Try.ntmps6
  go_wp2_with fail
  refine (HC.out _ ((Below.refl _ _).alloc (Nat.le_refl _) _)).mono ?_
  rintro e w1 ⟨rfl, h1⟩
  have HP : Hid (ChPostP P W d (fun _ => syncDirK k) w (.returned (.tuple #[.int .i64 (syncDirK k).1, .bool true])) w1) := ⟨_, Nat.le_refl _, rfl, h1⟩
  clear h1
  generalize (syncDirK k).1 = z at *
  go_wp2
  go_ret2
  exact HP.out

set_option maxHeartbeats 1000000 in
set_option maxRecDepth 1000000 in
theorem changeRenameP {P : Nat → Prop} {W w : World} {d n : Nat} {k : Dk} (nm to : ByteArray) (at' m : Int) (vb vp : Value) (h : DskP P W d k w) (hs : nm.size ≤ maxLen) (ht : to.size ≤ maxLen) (hk : k.Dok n) (hu : k.Uok) (hn : n ≤ 4398046511103) :
    Calls Try.prog 6 #[.pointer (some ⟨d, 0, none⟩), .agg #[.int .i64 6, .string nm, .string to, .int .i64 at', .int .i64 m, vb, vp]] w (ChPostP P W d (fun _ => renameK k nm to) w) := by
  have HC : Hid (∀ w1, Below w.heap.size w w1 → Calls Try.prog 27 #[.pointer (some ⟨d, 0, none⟩), .string nm, .string to] w1 (PPost P W d (renameK k nm to))) := fun w1 hb => renameP (h.later hb) hs ht hk hu hn
  clear h hk hu
  go_enter Try.func6, Try.ntmps6
  go_wp2_with fail
  refine (HC.out _ ((Below.refl _ _).alloc (Nat.le_refl _) _)).mono ?_
  rintro e w1 ⟨rfl, h1⟩
  have HP : Hid (ChPostP P W d (fun _ => renameK k nm to) w (.returned (.tuple #[.int .i64 (renameK k nm to).1, .bool true])) w1) := ⟨_, Nat.le_refl _, rfl, h1⟩
  clear h1
  generalize (renameK k nm to).1 = z at *
  go_wp2
  go_ret2
  exact HP.out

set_option maxHeartbeats 1000000 in
set_option maxRecDepth 1000000 in
theorem changeRemoveP {P : Nat → Prop} {W w : World} {d n : Nat} {k : Dk} (nm to : ByteArray) (at' m : Int) (vb vp : Value) (h : DskP P W d k w) (hs : nm.size ≤ maxLen) (hk : k.Dok n) (hu : k.Uok) (hn : n ≤ 4398046511103) :
    Calls Try.prog 6 #[.pointer (some ⟨d, 0, none⟩), .agg #[.int .i64 7, .string nm, .string to, .int .i64 at', .int .i64 m, vb, vp]] w (ChPostP P W d (fun _ => removeK k nm) w) := by
  have HC : Hid (∀ w1, Below w.heap.size w w1 → Calls Try.prog 28 #[.pointer (some ⟨d, 0, none⟩), .string nm] w1 (PPost P W d (removeK k nm))) := fun w1 hb => removeP (h.later hb) hs hk hu hn
  clear h hk hu
  go_enter Try.func6, Try.ntmps6
  go_wp2_with fail
  refine (HC.out _ ((Below.refl _ _).alloc (Nat.le_refl _) _)).mono ?_
  rintro e w1 ⟨rfl, h1⟩
  have HP : Hid (ChPostP P W d (fun _ => removeK k nm) w (.returned (.tuple #[.int .i64 (removeK k nm).1, .bool true])) w1) := ⟨_, Nat.le_refl _, rfl, h1⟩
  clear h1
  generalize (removeK k nm).1 = z at *
  go_wp2
  go_ret2
  exact HP.out
set_option maxHeartbeats 4000000 in
set_option maxRecDepth 1000000 in
theorem changeAppendP {P : Nat → Prop} {W w : World} {d n : Nat} {k : Dk} (nm to : ByteArray) (at' m : Int) (vb vp : Value) (l : List Nat) (h : DskP P W d k w) (hs : nm.size ≤ maxLen) (hb : BytesAt w vb l) (hw : ∀ w', Keep P W w' → BytesAt w' vb l) (hl : l.length ≤ 140737488351232) (hk : k.Dok n) (hu : k.Uok) (hn : n ≤ 4398046511103) :
    Calls Try.prog 6 #[.pointer (some ⟨d, 0, none⟩), .agg #[.int .i64 2, .string nm, .string to, .int .i64 at', .int .i64 m, vb, vp]] w (ChPostP P W d (fun _ => appendK k nm l) w) := by
  obtain ⟨h1, S, h2, h3⟩ := h
  have hS := h2.rng
  have HB : Hid (BytesAt w vb l) := hb
  have HWW : Hid (∀ w', Keep P W w' → BytesAt w' vb l) := hw
  have H0 : Hid (Keep P W w ∧ DiskAt w d k S ∧ (∀ x, S x → ¬ P x) ∧ ∀ x, S x → x < w.heap.size) := ⟨h1, h2, h3, hS⟩
  have HAP : Hid (∀ (w1 : World) (g cap : Nat), Below w.heap.size w w1 → w.heap.size ≤ g → Own w1 (.slice (some ⟨g, 0, none⟩) (l.length + 8) cap) (l ++ marks 8) (some g) → Calls Try.prog 22 #[.pointer (some ⟨d, 0, none⟩), .string nm, .slice (some ⟨g, 0, none⟩) l.length cap] w1 (OpPost d (appendK k nm l) S w1)) := fun w1 g cap hb1 hg ho =>
    appendOf d k n S nm hs _ l w1 (h2.later hb1) hk.ok hu hn (fun w' hc => BytesAt.head (ho.apart hc (fun e => by have := hS g e; omega)))
  have hW0 := h1.size
  obtain ⟨R, hR⟩ : ∃ R, appendK k nm l = R := ⟨_, rfl⟩
  rw [hR] at HAP
  rw [show (fun _ : Nat => appendK k nm l) = fun _ => R by rw [hR]]
  clear h1 h2 h3 hS hb hw hk hu hR
  go_enter Try.func6, Try.ntmps6
  go_wp2_with fail
  refine (roomy _ l _ (HB.out.later ((Below.refl _ _).alloc (Nat.le_refl _) _)) hl).mono ?_
  rintro e w1 ⟨g, cap, rfl, ho, hg, hb1⟩
  have HO : Hid (Own w1 (.slice (some ⟨g, 0, none⟩) (l.length + 8) cap) (l ++ marks 8) (some g)) := ho
  have hgw : w.heap.size + 1 ≤ g := by simpa using hg
  have HB1 : Hid (Below (w.heap.size + 1) (w.alloc (.cells #[.int .i64 2, .string nm, .string to, .int .i64 at', .int .i64 m, vb, vp] 29)) w1) := by unfold Hid; simpa using hb1
  have HBL : Hid (Below w.heap.size w w1) := ((Below.refl _ _).alloc (Nat.le_refl _) _).trans (HB1.out.mono (by omega))
  clear ho hg hb1
  have c1 : w1.cell? ⟨w.heap.size, 1, none⟩ = some (.string nm) := by
    rw [HB1.out.cell (p := ⟨_, _, none⟩) (by simp)]; simp
  have c5 : w1.cell? ⟨w.heap.size, 5, none⟩ = some vb := by
    rw [HB1.out.cell (p := ⟨_, _, none⟩) (by simp)]; simp
  have hs1 := HB1.out.size
  go_wp2_with fail
  refine (HAP.out w1 g cap HBL.out (by omega) HO.out).mono ?_
  rintro e w2 ⟨rfl, hd2, hc2⟩
  have hs2 := hc2.size
  have hglt : g < w1.heap.size := HO.out.lt
  have hnS : ∀ x, w.heap.size ≤ x → ¬ S x := fun x hx e => by have := H0.out.2.2.2 x e; omega
  have HD2 : Hid (DiskAt w2 d R.2 (Ext S w1 w2) ∧ (∀ x, Ext S w1 w2 x → ¬ P x) ∧ ¬ Ext S w1 w2 g) := by
    refine ⟨hd2, DskP.ext (H0.out.1.later HBL.out) H0.out.2.2.1, fun hx => ?_⟩
    · rcases hx with hx | hx
      · exact hnS g (by omega) hx
      · omega
  have HBB : Hid (Keep P W w2) := (H0.out.1.later HBL.out).chg hc2 H0.out.2.2.1
  have d5 : w2.cell? ⟨w.heap.size, 5, none⟩ = some vb := by
    rw [World.cell?_of_block (w := w1) (a := ⟨w.heap.size, 5, none⟩) (hc2.block w.heap.size (by simp at hs1; omega) (hnS _ (Nat.le_refl _)))]; exact c5
  have HO2 : Hid (Own w2 (.slice (some ⟨g, 0, none⟩) (l.length + 8) cap) (l ++ marks 8) (some g)) := HO.out.apart hc2 (hnS g (by omega))
  clear c1 c5 HO HB1 hs1 hd2 hc2 hnS HAP
  go_wp2_with fail
  refine (kept g cap l l vb w2 (HWW.out w2 HBB.out) rfl HO2.out).mono ?_
  rintro e w3 ⟨rfl, q, rfl⟩
  obtain ⟨hby, hr⟩ := HO2.out
  rcases hr with ⟨e, _⟩ | ⟨g', cap', e, e2, hg, h1, h2, h3, h4, h5⟩
  · simp at e
  simp at e; subst e
  simp only [Value.slice.injEq, true_and] at e2
  obtain ⟨-, rfl⟩ := e2
  have hc8 : l.length + 8 ≤ cap := by simp [marks_len] at h1; omega
  have H3 : Hid (∀ j, j < cap → w2.frozen? ⟨g, j, none⟩ = false) := h3
  have H4 : Hid (∀ j, j < cap → (w2.cell? ⟨g, j, none⟩).isSome = true) := h4
  unfold maxLen at h2
  clear hby h1 h3 h4 h5 HO2 hg d5
  simp only [decide_true]
  go_wp2
  go_loopw [9] (fun i wr => ∃ kk : Nat, kk ≤ l.length ∧ i = .int .i64 kk ∧ Keep P W wr ∧ DiskAt wr d R.2 (Ext S w1 w2) ∧ (∀ j, wr.frozen? ⟨g, j, none⟩ = w2.frozen? ⟨g, j, none⟩) ∧ (∀ j, j < cap → (wr.cell? ⟨g, j, none⟩).isSome = true)) (fun i _ => l.length - (intOf i).toNat)
  case atStart => exact ⟨0, by omega, rfl, HBB.out.later (below_drewN' w2 q), HD2.out.1.later (below_drewN' w2 q), fun _ => rfl, H4.out⟩
  case round =>
    obtain ⟨kk, hkk, rfl, hbl, hdd, hfr, hsome⟩ := hrel
    by_cases hlt : kk < l.length
    · obtain ⟨old, hold⟩ := Option.isSome_iff_exists.mp (hsome kk (by omega))
      have hfz : wr.frozen? ⟨g, kk, none⟩ = false := by rw [hfr]; exact H3.out kk (by omega)
      have HREL : Hid (Keep P W (wr.setCell ⟨g, kk, none⟩ (.int .u8 77)) ∧ DiskAt (wr.setCell ⟨g, kk, none⟩ (.int .u8 77)) d R.2 (Ext S w1 w2) ∧ (∀ j, (wr.setCell ⟨g, kk, none⟩ (.int .u8 77)).frozen? ⟨g, j, none⟩ = w2.frozen? ⟨g, j, none⟩) ∧
          (∀ j, j < cap → ((wr.setCell ⟨g, kk, none⟩ (.int .u8 77)).cell? ⟨g, j, none⟩).isSome = true)) := by
        refine ⟨hbl.chg (S := fun x => x = g) ((Chg.refl _ _).grown (grow_set wr g kk (.int .u8 77)) (fun g' e => by simp at e; exact .inl e.symm)) (fun x hx hp => by have := hbl.lt x hp; subst hx; omega), hdd.frame (by simp) (fun x hx => (grow_set wr g kk (.int .u8 77)).block x (hdd.rng x hx) (fun e => by simp at e; subst e; exact HD2.out.2.2 hx)), fun j => ?_, fun j hj => ?_⟩
        · rw [← hfr j]; exact World.frozen?_setCells g [.int .u8 77] kk wr _
        · exact isSome_setCells g [.int .u8 77] kk wr _ (hsome j hj)
      clear hbl hfr hsome hdd
      go_wp2
      go_roundw
      case rel => exact ⟨kk + 1, by omega, by go_num, HREL.out⟩
      case measure => simp [intOf]; omega
    · have HP : Hid (ChPostP P W d (fun _ => R) w (.returned (.tuple #[.int .i64 R.1, .bool true])) wr) := ⟨_, Nat.le_refl _, rfl, hbl, _, hdd, HD2.out.2.1⟩
      clear hbl hfr hsome hdd
      go_wp2
      go_ret2
      exact HP.out

theorem changeAllP {P : Nat → Prop} {W w : World} {d n : Nat} {k : Dk} (kd : Int) (nm to : ByteArray) (at' m : Int) (vb vp : Value) (l : List Nat) (hk1 : 1 ≤ kd) (hk7 : kd ≤ 7) (h : DskP P W d k w) (hs : nm.size ≤ maxLen) (ht : to.size ≤ maxLen) (hm : I64 m) (hw : ∀ w', Keep P W w' → BytesAt w' vb l) (hl : l.length ≤ 140737488351232) (hk : k.Dok n) (hu : k.Uok) (hn : n ≤ 4398046511103) :
    Calls Try.prog 6 #[.pointer (some ⟨d, 0, none⟩), .agg #[.int .i64 kd, .string nm, .string to, .int .i64 at', .int .i64 m, vb, vp]] w (ChPostP P W d (chK k kd nm to m l) w) := by
  have : kd = 1 ∨ kd = 2 ∨ kd = 3 ∨ kd = 4 ∨ kd = 5 ∨ kd = 6 ∨ kd = 7 := by omega
  rcases this with rfl | rfl | rfl | rfl | rfl | rfl | rfl
  · exact changeCreateP nm to at' m vb vp h hs hk hn
  · exact changeAppendP nm to at' m vb vp l h hs (hw _ h.1) hw hl hk hu hn
  · exact changeTruncP nm to at' m vb vp h hs hm hk hu hn
  · exact changeSyncP nm to at' m vb vp h hs hk hn
  · exact changeSyncDirP nm to at' m vb vp h hk hn
  · exact changeRenameP nm to at' m vb vp h hs ht hk hu hn
  · exact changeRemoveP nm to at' m vb vp h hs hk hu hn
end Go.Proofs.Ytgffncbmchimdaa

/-! Two disks side by side; the law on the fuse: what is kept. -/
namespace Go.Proofs.Ytgffncbmchimdaa
open Go.RowKit Go.Maps Plain
set_option linter.unusedVariables false
set_option linter.unusedSimpArgs false

/-- Two disks that share nothing, and have nothing to do with the blocks Q. -/
def Duo (Q : Nat → Prop) (a b : Nat) (ka kb : Dk) (w : World) : Prop :=
  ∃ S T, DiskAt w a ka S ∧ DiskAt w b kb T ∧ (∀ x, S x → ¬ T x ∧ ¬ Q x) ∧ (∀ x, T x → ¬ Q x) ∧ ∀ x, Q x → x < w.heap.size
theorem Keep.sub {P Q : Nat → Prop} {W w : World} (h : Keep P W w) (hq : ∀ x, Q x → P x) : Keep Q W w := ⟨h.os, h.tape, h.output, h.size, fun x hx => h.lt x (hq x hx), fun x hx => h.block x (hq x hx)⟩
theorem Keep.trans {P : Nat → Prop} {W w w' : World} (h : Keep P W w) (k : Keep P w w') : Keep P W w' := ⟨k.os.trans h.os, k.tape.trans h.tape, k.output.trans h.output, Nat.le_trans h.size k.size, h.lt, fun x hx => (k.block x hx).trans (h.block x hx)⟩
theorem Duo.left {Q : Nat → Prop} {a b : Nat} {ka kb : Dk} {w : World} (h : Duo Q a b ka kb w) : ∃ P, DskP P w a ka w ∧ (∀ x, Q x → P x) ∧ ∀ ka' w', DskP P w a ka' w' → Duo Q a b ka' kb w' ∧ Keep Q w w' := by
  obtain ⟨S, T, h1, h2, h3, h4, h5⟩ := h
  refine ⟨fun x => Q x ∨ T x, ⟨Keep.refl (fun x hx => ?_), S, h1, fun x hx hp => ?_⟩, fun x hx => .inl hx, fun ka' w' hd => ?_⟩
  · rcases hx with hx | hx
    · exact h5 x hx
    · exact h2.rng x hx
  · rcases hp with hp | hp
    · exact (h3 x hx).2 hp
    · exact (h3 x hx).1 hp
  · obtain ⟨k1, S', d1, d2⟩ := hd
    refine ⟨⟨S', T, d1, h2.frame k1.size (fun x hx => k1.block x (.inr hx)), fun x hx => ⟨fun ht => d2 x hx (.inr ht), fun hq => d2 x hx (.inl hq)⟩, h4, fun x hx => Nat.lt_of_lt_of_le (h5 x hx) k1.size⟩, k1.sub (fun x hx => .inl hx)⟩
theorem Duo.right {Q : Nat → Prop} {a b : Nat} {ka kb : Dk} {w : World} (h : Duo Q a b ka kb w) : ∃ P, DskP P w b kb w ∧ (∀ x, Q x → P x) ∧ ∀ kb' w', DskP P w b kb' w' → Duo Q a b ka kb' w' ∧ Keep Q w w' := by
  obtain ⟨S, T, h1, h2, h3, h4, h5⟩ := h
  refine ⟨fun x => Q x ∨ S x, ⟨Keep.refl (fun x hx => ?_), T, h2, fun x hx hp => ?_⟩, fun x hx => .inl hx, fun kb' w' hd => ?_⟩
  · rcases hx with hx | hx
    · exact h5 x hx
    · exact h1.rng x hx
  · rcases hp with hp | hp
    · exact h4 x hx hp
    · exact (h3 x hp).1 hx
  · obtain ⟨k1, T', d1, d2⟩ := hd
    refine ⟨⟨S, T', h1.frame k1.size (fun x hx => k1.block x (.inr hx)), d1, fun x hx => ⟨fun ht => d2 x ht (.inr hx), (h3 x hx).2⟩, fun x hx hq => d2 x hx (.inl hq), fun x hx => Nat.lt_of_lt_of_le (h5 x hx) k1.size⟩, k1.sub (fun x hx => .inl hx)⟩
theorem Duo.later {Q : Nat → Prop} {a b : Nat} {ka kb : Dk} {w w' : World} (h : Duo Q a b ka kb w) (hb : Below w.heap.size w w') : Duo Q a b ka kb w' := by
  obtain ⟨S, T, h1, h2, h3, h4, h5⟩ := h
  exact ⟨S, T, h1.later hb, h2.later hb, h3, h4, fun x hx => Nat.lt_of_lt_of_le (h5 x hx) hb.size⟩
/-- What has come since is guarded too. -/
theorem Duo.guard {Q : Nat → Prop} {a b : Nat} {ka kb : Dk} {w w' : World} (h : Duo Q a b ka kb w) (hb : Below w.heap.size w w') : Duo (fun x => Q x ∨ (w.heap.size ≤ x ∧ x < w'.heap.size)) a b ka kb w' := by
  obtain ⟨S, T, h1, h2, h3, h4, h5⟩ := h
  have hs := hb.size
  refine ⟨S, T, h1.later hb, h2.later hb, fun x hx => ⟨(h3 x hx).1, fun hq => ?_⟩, fun x hx hq => ?_, fun x hx => ?_⟩
  · rcases hq with hq | hq
    · exact (h3 x hx).2 hq
    · have := h1.rng x hx; omega
  · rcases hq with hq | hq
    · exact h4 x hx hq
    · have := h2.rng x hx; omega
  · rcases hx with hx | hx
    · have := h5 x hx; omega
    · exact hx.2
theorem Duo.unguard {Q Q' : Nat → Prop} {a b : Nat} {ka kb : Dk} {w : World} (h : Duo Q a b ka kb w) (hq : ∀ x, Q' x → Q x) : Duo Q' a b ka kb w := by
  obtain ⟨S, T, h1, h2, h3, h4, h5⟩ := h
  exact ⟨S, T, h1, h2, fun x hx => ⟨(h3 x hx).1, fun q => (h3 x hx).2 (hq x q)⟩, fun x hx q => h4 x hx (hq x q), fun x hx => h5 x (hq x hx)⟩
/-- A second disk of new memory, beside a first one. -/
theorem Dsk.duo {W w1 w2 : World} {a b : Nat} {ka kb : Dk} (h1 : Dsk W a ka w1) (h2 : Dsk w1 b kb w2) : Duo (fun x => x < W.heap.size) a b ka kb w2 ∧ Below W.heap.size W w2 := by
  obtain ⟨b1, S, d1, s1⟩ := h1
  obtain ⟨b2, T, d2, s2⟩ := h2
  have hs := b1.size
  refine ⟨⟨S, T, d1.later b2, d2, fun x hx => ⟨fun ht => ?_, fun hq => ?_⟩, fun x hx hq => ?_, fun x hx => ?_⟩, b1.trans (b2.mono hs)⟩
  · have := s2 x ht; have := d1.rng x hx; omega
  · have := s1 x hx; omega
  · have := s2 x hx; omega
  · have := b2.size; omega
theorem fuseP {P : Nat → Prop} {W w1 : World} {d : Nat} {k : Dk} (h : DskP P W d k w1) (n : Int) (hn : I64 n) : Calls Try.prog 16 #[.pointer (some ⟨d, 0, none⟩), .int .i64 n] w1 fun e w2 => e = .returned (.tuple #[]) ∧ DskP P W d (fuseK k n) w2 := by
  obtain ⟨h1, S, h2, h3⟩ := h
  refine (fuseOf (St.start h2) n hn.1 hn.2).mono ?_
  rintro e w2 ⟨rfl, hp⟩
  exact ⟨rfl, DskP.ofSt h1 h3 hp⟩
theorem listDeadP {P : Nat → Prop} {W w1 : World} {d : Nat} {k : Dk} (h : DskP P W d k w1) (hd : k.dead = true) : Calls Try.prog 7 #[.pointer (some ⟨d, 0, none⟩)] w1 fun e w2 => e = .returned (.tuple #[.slice none 0 0, .int .i64 34]) ∧ w2 = w1 := by
  obtain ⟨h1, S, h2, h3⟩ := h
  exact listDead (St.start h2) hd
theorem readDeadP {P : Nat → Prop} {W w1 : World} {d : Nat} {k : Dk} (h : DskP P W d k w1) (hd : k.dead = true) (s : ByteArray) (hs : s.size ≤ maxLen) (x y : Int) : Calls Try.prog 23 #[.pointer (some ⟨d, 0, none⟩), .string s, .int .i64 x, .int .i64 y] w1 fun e w2 => e = .returned (.tuple #[.slice none 0 0, .int .i64 34]) ∧ Below w1.heap.size w1 w2 := by
  obtain ⟨h1, S, h2, h3⟩ := h
  exact readDead (St.start h2) hd s hs x y
theorem crashP {P : Nat → Prop} {W w1 : World} {d n : Nat} {k : Dk} {a : Option Addr} {m c : Nat} {ps : List Int} (h : DskP P W d k w1) (hk : k.Dok n) (hp : k.Past) (hn : n ≤ 2000000000000) (hps : PicksAt w1 (.slice a m c) ps) (hpo : PicksOff w1.heap.size (.slice a m c)) :
    Calls Try.prog 12 #[.pointer (some ⟨d, 0, none⟩), .slice a m c] w1 fun e w2 => ∃ a l c, e = .returned (.slice a l c) ∧ ImgAt w2 (.slice a l c) (crK k ps) w1.heap.size ∧ Below w1.heap.size w1 w2 := by
  obtain ⟨h1, S, h2, h3⟩ := h
  obtain ⟨c1, c2⟩ := hp.crash hk hn ps
  exact crashOf w1 d k n S h2 hk a m c ps hps hpo c1 c2

theorem spent_can {k : Dk} (h : k.can = true) : k.spent.ops = k.ops + 1 ∧ k.spent.left = (if k.fused then k.left - 1 else k.left) ∧ k.spent.dead = k.dead := by
  unfold Dk.can spd at h
  unfold Dk.spent spd
  split at h
  · simp at h
  · rename_i hh
    simp [hh]
theorem spent_not {k : Dk} (h : k.can = false) : k.spent.ops = k.ops ∧ k.spent.dead = true := by
  unfold Dk.can spd at h
  unfold Dk.spent spd
  split at h
  · rename_i hh
    simp [hh]
  · simp at h
/-- What is done is counted; what is refused leaves the disk. -/
theorem chK_flags {k : Dk} {G : Nat} {kd m : Int} {nm to : ByteArray} {l : List Nat} (hc : k.can = true) (hd : k.dead = false) :
    ((chK k kd nm to m l G).1 = 0 ∧ (chK k kd nm to m l G).2.ops = k.ops + 1 ∧ (chK k kd nm to m l G).2.fused = k.fused ∧ (chK k kd nm to m l G).2.left = (if k.fused then k.left - 1 else k.left) ∧ (chK k kd nm to m l G).2.dead = false) ∨
    ((chK k kd nm to m l G).1 ≠ 0 ∧ (chK k kd nm to m l G).2 = k) := by
  obtain ⟨s1, s2, s3⟩ := spent_can hc
  rw [hd] at s3
  have fin : ∀ k' : Dk, k'.ops = k.spent.ops → k'.fused = k.fused → k'.left = k.spent.left → k'.dead = k.spent.dead → k'.ops = k.ops + 1 ∧ k'.fused = k.fused ∧ k'.left = (if k.fused then k.left - 1 else k.left) ∧ k'.dead = false := fun k' a1 a2 a3 a4 => ⟨a1.trans s1, a2, a3.trans s2, a4.trans s3⟩
  unfold chK
  split
  · unfold createK
    rw [hc]
    split
    · rename_i h; exact .inr ⟨h, rfl⟩
    · split
      · exact .inr ⟨by simp, rfl⟩
      · split
        · exact .inr ⟨by simp, rfl⟩
        · exact .inl ⟨rfl, fin _ rfl rfl rfl rfl⟩
  · split
    · unfold appendK
      rw [hc]
      split
      · split
        · exact .inr ⟨by simp, rfl⟩
        · split
          · exact .inl ⟨rfl, fin _ rfl rfl rfl rfl⟩
          · exact .inr ⟨by simp, rfl⟩
      · rename_i h; exact .inr ⟨h, rfl⟩
    · split
      · unfold truncK
        rw [hc]
        split
        · split
          · split
            · exact .inr ⟨by simp, rfl⟩
            · exact .inl ⟨rfl, fin _ rfl rfl rfl rfl⟩
          · exact .inr ⟨by simp, rfl⟩
        · rename_i h; exact .inr ⟨h, rfl⟩
      · split
        · unfold syncK
          rw [hc]
          split
          · split
            · exact .inl ⟨rfl, fin _ rfl rfl rfl rfl⟩
            · exact .inr ⟨by simp, rfl⟩
          · rename_i h; exact .inr ⟨h, rfl⟩
        · split
          · unfold syncDirK
            rw [hc, hd]
            exact .inl ⟨rfl, fin _ rfl rfl rfl rfl⟩
          · split
            · unfold renameK
              rw [hc]
              split
              · rename_i h; exact .inr ⟨h, rfl⟩
              · split
                · exact .inr ⟨by simp, rfl⟩
                · split
                  · exact .inl ⟨rfl, fin _ rfl rfl rfl rfl⟩
                  · rename_i h; exact .inr ⟨h, rfl⟩
            · unfold removeK
              rw [hc]
              split
              · exact .inl ⟨rfl, fin _ rfl rfl rfl rfl⟩
              · rename_i h; exact .inr ⟨h, rfl⟩
end Go.Proofs.Ytgffncbmchimdaa

/-! The law on the fuse: what is kept from step to step. -/
namespace Go.Proofs.Ytgffncbmchimdaa
open Go.RowKit Go.Maps Plain
set_option linter.unusedVariables false
set_option linter.unusedSimpArgs false

/-- The first disk is on; the second one has a fuse, and goes with it up to its end; then it is off. -/
structure FInv (ka kb : Dk) (n base : Int) (m : Nat) : Prop where
  ad : ka.Dok m
  asum : ka.Sum
  ap : ka.Past
  aon : ka.On
  bd : kb.Dok m
  bsum : kb.Sum
  bp : kb.Past
  nn : 0 ≤ n ∧ n < 50
  base0 : 0 ≤ base ∧ base ≤ 2
  ge : base ≤ ka.ops
  ph : (kb.dead = false ∧ kb.fused = true ∧ kb.ops = ka.ops ∧ kb.left = n - (ka.ops - base) ∧ ka.ops - base ≤ n ∧ ∃ R, Sib R ka kb) ∨ (kb.dead = true ∧ ka.ops - base = n + 1)
theorem FInv.opsle {ka kb : Dk} {n base : Int} {m : Nat} (h : FInv ka kb n base m) : 0 ≤ ka.ops ∧ ka.ops ≤ 60 := by
  have h1 := h.ge
  have h2 := h.base0
  have h3 := h.nn
  rcases h.ph with ⟨_, _, _, _, h4, _⟩ | ⟨_, h4⟩ <;> omega
theorem FInv.mono {ka kb : Dk} {n base : Int} {m m' : Nat} (h : FInv ka kb n base m) (hm : m ≤ m') : FInv ka kb n base m' := ⟨h.ad.mono hm, h.asum, h.ap, h.aon, h.bd.mono hm, h.bsum, h.bp, h.nn, h.base0, h.ge, h.ph⟩
/-- Once it is off: the change is refused, and nothing has turned. -/
theorem FInv.off {ka kb : Dk} {n base : Int} {m G : Nat} {kd mm : Int} {nm to : ByteArray} {l : List Nat} (h : FInv ka kb n base m) (hd : kb.dead = true) : chK kb kd nm to mm l G = (34, kb) := chK_dead hd
theorem FInv.step {ka kb : Dk} {n base : Int} {m A B : Nat} {kd mm : Int} {nm to : ByteArray} {l : List Nat} (h : FInv ka kb n base m) (hd : kb.dead = false) (hs : nm.size ≤ maxLen) (ht : to.size ≤ maxLen) (hm : m ≤ 4398046511102) (hA : ¬ ka.live A) (hB : ¬ kb.live B) :
    FInv (chK ka kd nm to mm l A).2 (chK kb kd nm to mm l B).2 n base (m + 1) ∧
    (((chK ka kd nm to mm l A).1 = 0 ∧ (chK ka kd nm to mm l A).2.ops - base = n + 1 ∧ (chK kb kd nm to mm l B).1 = 34 ∧ (chK kb kd nm to mm l B).2.dead = true ∧ imK (chK kb kd nm to mm l B).2 = imK ka ∧ ∀ ps, crK (chK kb kd nm to mm l B).2 ps = crK ka ps) ∨
     (((chK ka kd nm to mm l A).1 ≠ 0 ∨ (chK ka kd nm to mm l A).2.ops - base ≠ n + 1) ∧ (chK ka kd nm to mm l A).1 = (chK kb kd nm to mm l B).1 ∧ (chK kb kd nm to mm l B).2.dead = false ∧ (chK kb kd nm to mm l B).2.ops = (chK ka kd nm to mm l A).2.ops ∧ imK (chK kb kd nm to mm l B).2 = imK (chK ka kd nm to mm l A).2 ∧ ∀ ps, crK (chK kb kd nm to mm l B).2 ps = crK (chK ka kd nm to mm l A).2 ps)) := by
  obtain ⟨p1, p2, p3, p4, p5, R, p6⟩ := h.ph.resolve_right (fun hx => by have := hx.1; rw [hd] at this; simp at this)
  have hca := h.aon.can
  have hda := h.aon.dead
  have d1 := chK_dok (kd := kd) (m := mm) (G := A) (l := l) h.ad h.asum.uok hs ht hm
  have d2 := chK_dok (kd := kd) (m := mm) (G := B) (l := l) h.bd h.bsum.uok hs ht hm
  have u1 := chK_sum (kd := kd) (m := mm) (nm := nm) (to := to) (l := l) h.asum h.ad.ok.refs hA
  have u2 := chK_sum (kd := kd) (m := mm) (nm := nm) (to := to) (l := l) h.bsum h.bd.ok.refs hB
  have o1 := (h.aon.chK (G := A) (kd := kd) (m := mm) (nm := nm) (to := to) (l := l)).1
  have a1 := h.ap.chK (G := A) (kd := kd) (m := mm) (nm := nm) (to := to) (l := l) h.ad
  have a2 := h.bp.chK (G := B) (kd := kd) (m := mm) (nm := nm) (to := to) (l := l) h.bd
  have fa := chK_flags (k := ka) (G := A) (kd := kd) (m := mm) (nm := nm) (to := to) (l := l) hca hda
  have hge := h.ge
  have mkI : base ≤ (chK ka kd nm to mm l A).2.ops → _ → FInv (chK ka kd nm to mm l A).2 (chK kb kd nm to mm l B).2 n base (m + 1) := fun g p => ⟨d1, u1, a1, o1, d2, u2, a2, h.nn, h.base0, g, p⟩
  cases hcb : kb.can with
  | true =>
    have hal := chK_R (a := A) (b := B) (kd := kd) (m := mm) (nm := nm) (to := to) (l := l) p6 (by rw [hda, p1]) hca hcb hA hB
    obtain ⟨e1, R', e2⟩ := hal
    have fb := chK_flags (k := kb) (G := B) (kd := kd) (m := mm) (nm := nm) (to := to) (l := l) hcb p1
    have hleft : kb.left ≠ 0 := fun e => by
      unfold Dk.can spd at hcb
      rw [p2, e] at hcb
      simp at hcb
    rcases fa with ⟨f1, f2, f3, f4, f5⟩ | ⟨f1, f2⟩
    · rcases fb with ⟨g1, g2, g3, g4, g5⟩ | ⟨g1, g2⟩
      · rw [p2] at g4
        simp only [if_true] at g4
        have hl0 : 0 ≤ kb.left := (h.bd.ok.fuse p2).1
        refine ⟨mkI (by omega) (.inl ⟨g5, by rw [g3, p2], by rw [g2, f2, p3], by rw [g4, f2, p4]; omega, by omega, R', e2⟩), .inr ⟨.inr (by omega), e1, g5, by rw [g2, f2, p3], e2.image.symm, fun ps => (e2.crash ps).symm⟩⟩
      · rw [e1] at f1; exact absurd f1 g1
    · rcases fb with ⟨g1, g2, g3, g4, g5⟩ | ⟨g1, g2⟩
      · rw [e1] at f1; exact absurd g1 f1
      · refine ⟨mkI (by rw [f2]; exact hge) ?_, .inr ⟨.inl f1, e1, by rw [g2]; exact p1, by rw [g2, f2]; exact p3, by rw [g2, f2]; exact p6.image.symm, fun ps => by rw [g2, f2]; exact (p6.crash ps).symm⟩⟩
        rw [g2, f2]
        exact .inl ⟨p1, p2, p3, p4, p5, R, p6⟩
  | false =>
    obtain ⟨t1, t2⟩ := chK_stuck (a := A) (b := B) (kd := kd) (m := mm) (nm := nm) (to := to) (l := l) p6 (by rw [hda, p1]) hda hca hcb
    have hleft : kb.left = 0 := by
      unfold Dk.can spd at hcb
      rw [p2] at hcb
      by_cases e : kb.left = 0
      · exact e
      · have : (kb.left == 0) = false := by simpa using e
        rw [this] at hcb
        simp at hcb
    rcases fa with ⟨f1, f2, f3, f4, f5⟩ | ⟨f1, f2⟩
    · have hb := t1 f1
      obtain ⟨s1, s2⟩ := spent_not hcb
      have hsb := p6.spentL
      refine ⟨mkI (by omega) ?_, .inl ⟨f1, by omega, by rw [hb], by rw [hb]; exact s2, by rw [hb]; exact hsb.image.symm, fun ps => by rw [hb]; exact (hsb.crash ps).symm⟩⟩
      rw [hb]
      exact .inr ⟨s2, by omega⟩
    · obtain ⟨hb, _⟩ := t2 f1
      refine ⟨mkI (by rw [f2]; exact hge) ?_, .inr ⟨.inl f1, by rw [hb], by rw [hb]; exact p1, by rw [hb, f2]; exact p3, by rw [hb, f2]; exact p6.image.symm, fun ps => by rw [hb, f2]; exact (p6.crash ps).symm⟩⟩
      rw [hb, f2]
      exact .inl ⟨p1, p2, p3, p4, p5, R, p6⟩
/-- The beginning. -/
theorem FInv.begin (q : Int) (a b : Nat) (h0 : 0 ≤ q) (h1 : q ≤ 1073741824) (n : Int) (hn : 0 ≤ n ∧ n < 50) : FInv (bg q a) (fuseK (bg q b) n) n (bg q b).ops 2 := by
  have hb := bg_dok q b h0 h1
  have hbs := bg_sum q b h0 h1
  have hbp := bg_past q b
  have hon := bg_on q b
  have hops : (bg q a).ops = (bg q b).ops ∧ 0 ≤ (bg q b).ops ∧ (bg q b).ops ≤ 2 := by
    unfold bg
    split
    · exact ⟨rfl, by show (0 : Int) ≤ 1; omega, by show (1 : Int) ≤ 2; omega⟩
    · exact ⟨rfl, by show (0 : Int) ≤ 2; omega, Int.le_refl _⟩
  obtain ⟨R, hR⟩ := bg_R q a b
  have hf : fuseK (bg q b) n = (bg q b).fuses n := by unfold fuseK; rw [hon.dead]; rfl
  rw [hf]
  obtain ⟨⟨b1, b2, b3, b4⟩, c2, c3, c4, c5⟩ := hb
  obtain ⟨r1, r2, r3, r4, r5, r6, r7, r8⟩ := hR
  refine ⟨bg_dok q a h0 h1, bg_sum q a h0 h1, bg_past q a, bg_on q a, ⟨⟨b1, b2, b3, fun _ => ⟨hn.1, by show n ≤ _; omega⟩⟩, c2, c3, c4, c5⟩, ⟨hbs.keys, hbs.files, hbs.used, hbs.quota, hbs.lim⟩, ⟨hbp.ld, hbp.made, hbp.few⟩, hn, ⟨hops.2.1, hops.2.2⟩, by rw [hops.1]; exact Int.le_refl _, .inl ⟨hon.dead, by show decide (0 ≤ n) = true; simp [hn.1], hops.1.symm, ?_, ?_, R, ⟨r1, r2, r3, r4, r5, r6, r7, r8⟩⟩⟩
  · show n = n - ((bg q a).ops - (bg q b).ops)
    rw [hops.1]; omega
  · rw [hops.1]; omega
end Go.Proofs.Ytgffncbmchimdaa

/-! Operations on one of two disks. -/
namespace Go.Proofs.Ytgffncbmchimdaa
open Go.RowKit Go.Maps Plain
set_option linter.unusedVariables false
set_option linter.unusedSimpArgs false

theorem picksLater {w w' : World} {v : Value} {ps : List Int} (h : PicksAt w v ps) (ho : PicksOff w.heap.size v) (hb : Below w.heap.size w w') : PicksAt w' v ps ∧ PicksOff w'.heap.size v :=
  ⟨h.cells ho (fun b hb' => hb.block b hb'), fun b off n c e => Nat.lt_of_lt_of_le (ho b off n c e) hb.size⟩

theorem Duo.changeA {Q : Nat → Prop} {a b n : Nat} {ka kb : Dk} {w : World} (h : Duo Q a b ka kb w) (kd : Int) (nm to : ByteArray) (at' m : Int) (vb vp : Value) (l : List Nat) (hk1 : 1 ≤ kd) (hk7 : kd ≤ 7) (hs : nm.size ≤ maxLen) (ht : to.size ≤ maxLen) (hm : I64 m) (hw : ∀ w', Keep Q w w' → BytesAt w' vb l) (hl : l.length ≤ 140737488351232) (hk : ka.Dok n) (hu : ka.Uok) (hn : n ≤ 4398046511103) :
    Calls Try.prog 6 #[.pointer (some ⟨a, 0, none⟩), .agg #[.int .i64 kd, .string nm, .string to, .int .i64 at', .int .i64 m, vb, vp]] w fun e w' => ∃ G, ¬ ka.live G ∧ e = .returned (.tuple #[.int .i64 (chK ka kd nm to m l G).1, .bool true]) ∧ Duo Q a b ((chK ka kd nm to m l G).2) kb w' ∧ Keep Q w w' := by
  obtain ⟨P, hP, hQ, back⟩ := h.left
  refine (changeAllP kd nm to at' m vb vp l hk1 hk7 hP hs ht hm (fun w' hk => hw w' (hk.sub hQ)) hl hk hu hn).mono ?_
  rintro e w' ⟨G, hG, rfl, h2⟩
  obtain ⟨b1, b2⟩ := back _ _ h2
  exact ⟨G, fun hl => by have := hP.liveLt hl; omega, rfl, b1, b2⟩
theorem Duo.imageA {Q : Nat → Prop} {a b n : Nat} {ka kb : Dk} {w : World} (h : Duo Q a b ka kb w) (hk : ka.Dok n) : Calls Try.prog 10 #[.pointer (some ⟨a, 0, none⟩)] w fun e w' => ∃ x l c, e = .returned (.slice x l c) ∧ ImgAt w' (.slice x l c) (imK ka) w.heap.size ∧ Below w.heap.size w w' := by
  obtain ⟨P, hP, hQ, back⟩ := h.left
  refine (imageP hP hk).mono ?_
  rintro e w' ⟨x, l, c, rfl, hi, _, hb⟩
  exact ⟨x, l, c, rfl, hi, hb⟩
theorem Duo.crashA {Q : Nat → Prop} {a b n : Nat} {ka kb : Dk} {w : World} {x : Option Addr} {m c : Nat} {ps : List Int} (h : Duo Q a b ka kb w) (hk : ka.Dok n) (hp : ka.Past) (hn : n ≤ 2000000000000) (hps : PicksAt w (.slice x m c) ps ∧ PicksOff w.heap.size (.slice x m c)) : Calls Try.prog 12 #[.pointer (some ⟨a, 0, none⟩), .slice x m c] w fun e w' => ∃ x l c, e = .returned (.slice x l c) ∧ ImgAt w' (.slice x l c) (crK ka ps) w.heap.size ∧ Below w.heap.size w w' := by
  obtain ⟨P, hP, hQ, back⟩ := h.left
  exact crashP hP hk hp hn hps.1 hps.2
theorem Duo.fuseA {Q : Nat → Prop} {a b : Nat} {ka kb : Dk} {w : World} (h : Duo Q a b ka kb w) (n : Int) (hn : I64 n) : Calls Try.prog 16 #[.pointer (some ⟨a, 0, none⟩), .int .i64 n] w fun e w' => e = .returned (.tuple #[]) ∧ Duo Q a b (fuseK ka n) kb w' ∧ Keep Q w w' := by
  obtain ⟨P, hP, hQ, back⟩ := h.left
  refine (fuseP hP n hn).mono ?_
  rintro e w' ⟨rfl, h2⟩
  exact ⟨rfl, back _ _ h2⟩
theorem Duo.listA {Q : Nat → Prop} {a b : Nat} {ka kb : Dk} {w : World} (h : Duo Q a b ka kb w) (hd : ka.dead = true) : Calls Try.prog 7 #[.pointer (some ⟨a, 0, none⟩)] w fun e w' => e = .returned (.tuple #[.slice none 0 0, .int .i64 34]) ∧ w' = w := by
  obtain ⟨P, hP, hQ, back⟩ := h.left
  exact listDeadP hP hd
theorem Duo.readA {Q : Nat → Prop} {a b : Nat} {ka kb : Dk} {w : World} (h : Duo Q a b ka kb w) (hd : ka.dead = true) (s : ByteArray) (hs : s.size ≤ maxLen) (x y : Int) : Calls Try.prog 23 #[.pointer (some ⟨a, 0, none⟩), .string s, .int .i64 x, .int .i64 y] w fun e w' => e = .returned (.tuple #[.slice none 0 0, .int .i64 34]) ∧ Below w.heap.size w w' := by
  obtain ⟨P, hP, hQ, back⟩ := h.left
  exact readDeadP hP hd s hs x y
theorem Duo.sizeA {Q : Nat → Prop} {a b n : Nat} {ka kb : Dk} {w : World} (h : Duo Q a b ka kb w) (hk : ka.Dok n) (s : ByteArray) (hs : s.size ≤ maxLen) : Calls Try.prog 48 #[.pointer (some ⟨a, 0, none⟩), .string s] w fun e w' => e = .returned (.tuple #[.int .i64 ((szK ka s).1 : Int), .int .i64 (szK ka s).2]) ∧ Duo Q a b ka kb w' ∧ Keep Q w w' := by
  obtain ⟨P, hP, hQ, back⟩ := h.left
  refine (sizeP hP hs hk).mono ?_
  rintro e w' ⟨rfl, h2⟩
  exact ⟨rfl, back _ _ h2⟩

theorem Duo.changeB {Q : Nat → Prop} {a b n : Nat} {ka kb : Dk} {w : World} (h : Duo Q a b ka kb w) (kd : Int) (nm to : ByteArray) (at' m : Int) (vb vp : Value) (l : List Nat) (hk1 : 1 ≤ kd) (hk7 : kd ≤ 7) (hs : nm.size ≤ maxLen) (ht : to.size ≤ maxLen) (hm : I64 m) (hw : ∀ w', Keep Q w w' → BytesAt w' vb l) (hl : l.length ≤ 140737488351232) (hk : kb.Dok n) (hu : kb.Uok) (hn : n ≤ 4398046511103) :
    Calls Try.prog 6 #[.pointer (some ⟨b, 0, none⟩), .agg #[.int .i64 kd, .string nm, .string to, .int .i64 at', .int .i64 m, vb, vp]] w fun e w' => ∃ G, ¬ kb.live G ∧ e = .returned (.tuple #[.int .i64 (chK kb kd nm to m l G).1, .bool true]) ∧ Duo Q a b ka ((chK kb kd nm to m l G).2) w' ∧ Keep Q w w' := by
  obtain ⟨P, hP, hQ, back⟩ := h.right
  refine (changeAllP kd nm to at' m vb vp l hk1 hk7 hP hs ht hm (fun w' hk => hw w' (hk.sub hQ)) hl hk hu hn).mono ?_
  rintro e w' ⟨G, hG, rfl, h2⟩
  obtain ⟨b1, b2⟩ := back _ _ h2
  exact ⟨G, fun hl => by have := hP.liveLt hl; omega, rfl, b1, b2⟩
theorem Duo.imageB {Q : Nat → Prop} {a b n : Nat} {ka kb : Dk} {w : World} (h : Duo Q a b ka kb w) (hk : kb.Dok n) : Calls Try.prog 10 #[.pointer (some ⟨b, 0, none⟩)] w fun e w' => ∃ x l c, e = .returned (.slice x l c) ∧ ImgAt w' (.slice x l c) (imK kb) w.heap.size ∧ Below w.heap.size w w' := by
  obtain ⟨P, hP, hQ, back⟩ := h.right
  refine (imageP hP hk).mono ?_
  rintro e w' ⟨x, l, c, rfl, hi, _, hb⟩
  exact ⟨x, l, c, rfl, hi, hb⟩
theorem Duo.crashB {Q : Nat → Prop} {a b n : Nat} {ka kb : Dk} {w : World} {x : Option Addr} {m c : Nat} {ps : List Int} (h : Duo Q a b ka kb w) (hk : kb.Dok n) (hp : kb.Past) (hn : n ≤ 2000000000000) (hps : PicksAt w (.slice x m c) ps ∧ PicksOff w.heap.size (.slice x m c)) : Calls Try.prog 12 #[.pointer (some ⟨b, 0, none⟩), .slice x m c] w fun e w' => ∃ x l c, e = .returned (.slice x l c) ∧ ImgAt w' (.slice x l c) (crK kb ps) w.heap.size ∧ Below w.heap.size w w' := by
  obtain ⟨P, hP, hQ, back⟩ := h.right
  exact crashP hP hk hp hn hps.1 hps.2
theorem Duo.fuseB {Q : Nat → Prop} {a b : Nat} {ka kb : Dk} {w : World} (h : Duo Q a b ka kb w) (n : Int) (hn : I64 n) : Calls Try.prog 16 #[.pointer (some ⟨b, 0, none⟩), .int .i64 n] w fun e w' => e = .returned (.tuple #[]) ∧ Duo Q a b ka (fuseK kb n) w' ∧ Keep Q w w' := by
  obtain ⟨P, hP, hQ, back⟩ := h.right
  refine (fuseP hP n hn).mono ?_
  rintro e w' ⟨rfl, h2⟩
  exact ⟨rfl, back _ _ h2⟩
theorem Duo.listB {Q : Nat → Prop} {a b : Nat} {ka kb : Dk} {w : World} (h : Duo Q a b ka kb w) (hd : kb.dead = true) : Calls Try.prog 7 #[.pointer (some ⟨b, 0, none⟩)] w fun e w' => e = .returned (.tuple #[.slice none 0 0, .int .i64 34]) ∧ w' = w := by
  obtain ⟨P, hP, hQ, back⟩ := h.right
  exact listDeadP hP hd
theorem Duo.readB {Q : Nat → Prop} {a b : Nat} {ka kb : Dk} {w : World} (h : Duo Q a b ka kb w) (hd : kb.dead = true) (s : ByteArray) (hs : s.size ≤ maxLen) (x y : Int) : Calls Try.prog 23 #[.pointer (some ⟨b, 0, none⟩), .string s, .int .i64 x, .int .i64 y] w fun e w' => e = .returned (.tuple #[.slice none 0 0, .int .i64 34]) ∧ Below w.heap.size w w' := by
  obtain ⟨P, hP, hQ, back⟩ := h.right
  exact readDeadP hP hd s hs x y
theorem Duo.sizeB {Q : Nat → Prop} {a b n : Nat} {ka kb : Dk} {w : World} (h : Duo Q a b ka kb w) (hk : kb.Dok n) (s : ByteArray) (hs : s.size ≤ maxLen) : Calls Try.prog 48 #[.pointer (some ⟨b, 0, none⟩), .string s] w fun e w' => e = .returned (.tuple #[.int .i64 ((szK kb s).1 : Int), .int .i64 (szK kb s).2]) ∧ Duo Q a b ka kb w' ∧ Keep Q w w' := by
  obtain ⟨P, hP, hQ, back⟩ := h.right
  refine (sizeP hP hs hk).mono ?_
  rintro e w' ⟨rfl, h2⟩
  exact ⟨rfl, back _ _ h2⟩
theorem szK_dead {k : Dk} {s : ByteArray} (h : k.dead = true) : szK k s = (0, 34) := by
  have h2 : (fnd k.dead k.L s).2 = 34 := by unfold fnd; rw [h]; rfl
  unfold szK
  rw [h2]; rfl
theorem fuseK_ops (k : Dk) (n : Int) : (fuseK k n).ops = k.ops := by
  unfold fuseK
  split <;> rfl
theorem fuseK_dead (k : Dk) (n : Int) : (fuseK k n).dead = k.dead := by
  unfold fuseK
  split <;> rfl
end Go.Proofs.Ytgffncbmchimdaa

/-! SimfsSettled: what its walk asks besides. -/
namespace Go.Proofs.Ytgffncbmchimdaa
open Go.RowKit Go.Maps Plain
set_option linter.unusedVariables false
set_option linter.unusedSimpArgs false

theorem chK_quota {k : Dk} {G : Nat} {kd m : Int} {nm to' : ByteArray} {l : List Nat} : (chK k kd nm to' m l G).2.quota = k.quota := by
  unfold chK
  split
  · unfold createK
    repeat' split
    all_goals rfl
  split
  · unfold appendK
    repeat' split
    all_goals rfl
  split
  · unfold truncK
    repeat' split
    all_goals rfl
  split
  · unfold syncK
    repeat' split
    all_goals rfl
  split
  · unfold syncDirK
    repeat' split
    all_goals rfl
  split
  · unfold renameK
    repeat' split
    all_goals rfl
  · unfold removeK
    repeat' split
    all_goals rfl
theorem bg_quota (q : Int) (G : Nat) : (bg q G).quota = q := by
  unfold bg
  split
  · rename_i h; rw [h]; rfl
  · rfl
theorem Dk.Past.crashC {k : Dk} (h : k.Past) (hn : k.chg.length ≤ 2000000000000) (ps : List Int) : (∀ p ∈ crL k ps, k.live p.2) ∧ (crL k ps).length ≤ 2199023255000 := by
  refine ⟨dst_live _ _ h.ld (fun nm g hg => h.made nm g (List.mem_of_mem_take hg)), ?_⟩
  have h1 := dst_len (k.chg.take (upV ps k.chg.length)) k.Ld
  have h2 := h.few
  have h4 : (k.chg.take (upV ps k.chg.length)).length ≤ k.chg.length := by rw [List.length_take]; omega
  unfold crL
  omega
theorem crashPc {P : Nat → Prop} {W w1 : World} {d n : Nat} {k : Dk} {a : Option Addr} {m c : Nat} {ps : List Int} (h : DskP P W d k w1) (hk : k.Dok n) (hp : k.Past) (hn : k.chg.length ≤ 2000000000000) (hps : PicksAt w1 (.slice a m c) ps ∧ PicksOff w1.heap.size (.slice a m c)) :
    Calls Try.prog 12 #[.pointer (some ⟨d, 0, none⟩), .slice a m c] w1 fun e w2 => ∃ a l c, e = .returned (.slice a l c) ∧ ImgAt w2 (.slice a l c) (crK k ps) w1.heap.size ∧ Below w1.heap.size w1 w2 := by
  obtain ⟨h1, S, h2, h3⟩ := h
  obtain ⟨c1, c2⟩ := hp.crashC hn ps
  exact crashOf w1 d k n S h2 hk a m c ps hps.1 hps.2 c1 c2
theorem Duo.crashAc {Q : Nat → Prop} {a b n : Nat} {ka kb : Dk} {w : World} {x : Option Addr} {m c : Nat} {ps : List Int} (h : Duo Q a b ka kb w) (hk : ka.Dok n) (hp : ka.Past) (hn : ka.chg.length ≤ 2000000000000) (hps : PicksAt w (.slice x m c) ps ∧ PicksOff w.heap.size (.slice x m c)) : Calls Try.prog 12 #[.pointer (some ⟨a, 0, none⟩), .slice x m c] w fun e w' => ∃ x l c, e = .returned (.slice x l c) ∧ ImgAt w' (.slice x l c) (crK ka ps) w.heap.size ∧ Below w.heap.size w w' := by
  obtain ⟨P, hP, hQ, back⟩ := h.left
  exact crashPc hP hk hp hn hps
theorem noPicks (w : World) : PicksAt w (.slice none 0 0) [] ∧ PicksOff w.heap.size (.slice none 0 0) :=
  ⟨⟨none, 0, rfl, Nat.le_refl _, Nat.zero_le _, by simp, by simp⟩, fun b off n c e => by cases e⟩
theorem Dsk.asP {W w1 : World} {d : Nat} {k : Dk} (h : Dsk W d k w1) : DskP (fun x => x < W.heap.size) W d k w1 := by
  obtain ⟨h1, S, h2, h3⟩ := h
  exact ⟨⟨h1.os, h1.tape, h1.output, h1.size, fun x hx => hx, fun x hx => h1.block x hx⟩, S, h2, fun x hx hp => by have := h3 x hx; omega⟩
/-- A disk beside what has come since. -/
theorem Dsk.guardP {W w1 w2 : World} {d : Nat} {k : Dk} (h : Dsk W d k w1) (hb : Below w1.heap.size w1 w2) : DskP (fun x => x < W.heap.size ∨ (w1.heap.size ≤ x ∧ x < w2.heap.size)) w2 d k w2 := by
  obtain ⟨h1, S, h2, h3⟩ := h
  have hs1 := h1.size
  have hs2 := hb.size
  refine ⟨Keep.refl (fun x hx => ?_), S, h2.later hb, fun x hx hp => ?_⟩
  · rcases hx with hx | hx <;> omega
  · have e1 := h3 x hx
    have e2 := h2.rng x hx
    rcases hp with hp | hp <;> omega
theorem DskP.backR {W W' w1 : World} {d : Nat} {k : Dk} {B C : Nat} (h : DskP (fun x => x < W.heap.size ∨ (B ≤ x ∧ x < C)) W' d k w1) (hb : Below W.heap.size W W') : Dsk W d k w1 := by
  obtain ⟨h1, S, h2, h3⟩ := h
  refine ⟨hb.trans (h1.below (fun x hx => .inl hx)), S, h2, fun x hx => ?_⟩
  have := h3 x hx
  by_cases hlt : x < W.heap.size
  · exact absurd (.inl hlt) this
  · omega
/-- An old disk, what has come since, and then a new disk. -/
theorem Dsk.duoG {W w1 w2 w3 : World} {a b : Nat} {ka kb : Dk} (h1 : Dsk W a ka w1) (hb : Below w1.heap.size w1 w2) (h2 : Dsk w2 b kb w3) : Duo (fun x => x < W.heap.size ∨ (w1.heap.size ≤ x ∧ x < w2.heap.size)) a b ka kb w3 ∧ Below W.heap.size W w3 := by
  obtain ⟨b1, S, d1, s1⟩ := h1
  obtain ⟨b2, T, d2, s2⟩ := h2
  have hs := b1.size
  have hs2 := hb.size
  have hs3 := b2.size
  refine ⟨⟨S, T, (d1.later hb).later b2, d2, fun x hx => ⟨fun ht => ?_, fun hq => ?_⟩, fun x hx hq => ?_, fun x hx => ?_⟩, (b1.trans (hb.mono hs)).trans (b2.mono (Nat.le_trans hs hs2))⟩
  · have := s2 x ht; have := d1.rng x hx; omega
  · have := s1 x hx; have := d1.rng x hx; rcases hq with hq | hq <;> omega
  · have := s2 x hx; rcases hq with hq | hq <;> omega
  · rcases hx with hx | hx <;> omega
theorem Dk.Good.dataLen {k : Dk} {n : Nat} (h : k.Good n) : ∀ p ∈ imK k, p.2.length ≤ 1073741824 := fun p hp => by
  have h1 := imK_total h.sum.keys
  have h2 := h.sum.used
  have h3 := h.sum.lim
  obtain ⟨j, hj, e⟩ := List.getElem_of_mem hp
  have h4 := imT_take (imK k) j p (by rw [List.getElem?_eq_getElem hj, e])
  have h5 := imT_le (imK k) (j + 1)
  omega
theorem TInv.chgLen {im : List (Nm × List Nat)} {k1 k2 : Dk} {n m : Nat} (h : TInv im k1 k2 n m) : k1.chg.length ≤ m := by
  obtain ⟨R, hR⟩ := h.sib
  rw [hR.chg.len]
  exact h.two.good.dok.cnt
theorem TInv.mono {im : List (Nm × List Nat)} {k1 k2 : Dk} {n m n' m' : Nat} (h : TInv im k1 k2 n m) (hn : n ≤ n') (hm : m ≤ m') : TInv im k1 k2 n' m' := ⟨h.one.mono hn, h.two.mono hm, h.sib, h.du1, h.du2⟩
end Go.Proofs.Ytgffncbmchimdaa
