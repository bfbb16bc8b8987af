import Derived.Test.YtadflolbgcdncaaShG
import Derived.Test.YtadflolbgcdncaaRm
import Derived.Test.YtadflolbgcdncaaRows
import Derived.ProofKit
import Derived.Test.YtadflolbgcdncaaSfV
import Derived.OpenShut
import Derived.SizedLaws
import Derived.Deep.Slices
/-! A changing operation, as a step asks for it. -/
namespace Go.Proofs.Ytadflolbgcdncaa
open Go.RowKit Go.Maps Plain
set_option linter.unusedVariables false
set_option linter.unusedSimpArgs false

/-- What a step's change does. -/
def chK (k : Dk) (kd : Int) (nm to : ByteArray) (n : Int) (l : List Nat) (G : Nat) : Int × Dk :=
  if kd = 1 then createK k nm G else if kd = 2 then appendK k nm l else if kd = 3 then truncK k nm n else if kd = 4 then syncK k nm else if kd = 5 then syncDirK k else if kd = 6 then renameK k nm to else removeK k nm
abbrev ChPost (W : World) (d : Nat) (f : Nat → Int × Dk) (w1 : World) : Ending → World → Prop := fun e w2 => ∃ G, w1.heap.size ≤ G ∧ e = .returned (.tuple #[.int .i64 (f G).1, .bool true]) ∧ Dsk W d (f G).2 w2
theorem truncD {W w1 : World} {d n : Nat} {k : Dk} {s : ByteArray} {m : Int} (h : Dsk W d k w1) (hs : s.size ≤ maxLen) (hm : I64 m) (hk : k.Dok n) (hu : k.Uok) (hn : n ≤ 4398046511103) : Calls Try.prog 52 #[.pointer (some ⟨d, 0, none⟩), .string s, .int .i64 m] w1 (DPost W d (truncK k s m)) := by
  obtain ⟨h1, S, h2, h3⟩ := h
  refine (truncOf d k n S s hs m hm.1 hm.2 w1 h2 hk.ok hu hn).mono ?_
  rintro e w2 hp
  exact Dsk.op h1 h3 hp
theorem removeD {W w1 : World} {d n : Nat} {k : Dk} {s : ByteArray} (h : Dsk W d k w1) (hs : s.size ≤ maxLen) (hk : k.Dok n) (hu : k.Uok) (hn : n ≤ 4398046511103) : Calls Try.prog 53 #[.pointer (some ⟨d, 0, none⟩), .string s] w1 (DPost W d (removeK k s)) := by
  obtain ⟨h1, S, h2, h3⟩ := h
  refine (removeOf d k n S s hs w1 h2 hk hu hn).mono ?_
  rintro e w2 hp
  exact Dsk.op h1 h3 hp

set_option maxHeartbeats 1000000 in
set_option maxRecDepth 1000000 in
theorem changeCreate {W w : World} {d n : Nat} {k : Dk} (nm to : ByteArray) (at' m : Int) (vb vp : Value) (h : Dsk W d k w) (hs : nm.size ≤ maxLen) (hk : k.Dok n) (hn : n ≤ 4398046511103) :
    Calls Try.prog 23 #[.pointer (some ⟨d, 0, none⟩), .agg #[.int .i64 1, .string nm, .string to, .int .i64 at', .int .i64 m, vb, vp]] w (ChPost W d (createK k nm) w) := by
  have HC : Hid (∀ w1, Below w.heap.size w w1 → Calls Try.prog 10 #[.pointer (some ⟨d, 0, none⟩), .string nm] w1 fun e w2 => ∃ G, w1.heap.size ≤ G ∧ DPost W d (createK k nm G) e w2) := fun w1 hb => createD (h.later hb) hs hk hn
  clear h hk
  go_enter Try.func23, Try.ntmps23
  go_wp2_with fail
  refine (HC.out _ ((Below.refl _ _).alloc (Nat.le_refl _) _)).mono ?_
  rintro e w1 ⟨G, hG, rfl, h1⟩
  have HP : Hid (ChPost W d (createK k nm) w (.returned (.tuple #[.int .i64 (createK k nm G).1, .bool true])) w1) := ⟨G, by simp at hG; omega, rfl, h1⟩
  clear h1
  generalize (createK k nm G).1 = z at *
  go_wp2
  go_ret2
  exact HP.out

set_option maxHeartbeats 1000000 in
set_option maxRecDepth 1000000 in
theorem changeTrunc {W w : World} {d n : Nat} {k : Dk} (nm to : ByteArray) (at' m : Int) (vb vp : Value) (h : Dsk W d k w) (hs : nm.size ≤ maxLen) (hm : I64 m) (hk : k.Dok n) (hu : k.Uok) (hn : n ≤ 4398046511103) :
    Calls Try.prog 23 #[.pointer (some ⟨d, 0, none⟩), .agg #[.int .i64 3, .string nm, .string to, .int .i64 at', .int .i64 m, vb, vp]] w (ChPost W d (fun _ => truncK k nm m) w) := by
  have HC : Hid (∀ w1, Below w.heap.size w w1 → Calls Try.prog 52 #[.pointer (some ⟨d, 0, none⟩), .string nm, .int .i64 m] w1 (DPost W d (truncK k nm m))) := fun w1 hb => truncD (h.later hb) hs hm hk hu hn
  clear h hk hu
  go_enter Try.func23, Try.ntmps23
  go_wp2_with fail
  refine (HC.out _ ((Below.refl _ _).alloc (Nat.le_refl _) _)).mono ?_
  rintro e w1 ⟨rfl, h1⟩
  have HP : Hid (ChPost W d (fun _ => truncK k nm m) w (.returned (.tuple #[.int .i64 (truncK k nm m).1, .bool true])) w1) := ⟨_, Nat.le_refl _, rfl, h1⟩
  clear h1
  generalize (truncK k nm m).1 = z at *
  go_wp2
  go_ret2
  exact HP.out

set_option maxHeartbeats 1000000 in
set_option maxRecDepth 1000000 in
theorem changeSync {W w : World} {d n : Nat} {k : Dk} (nm to : ByteArray) (at' m : Int) (vb vp : Value) (h : Dsk W d k w) (hs : nm.size ≤ maxLen) (hk : k.Dok n) (hn : n ≤ 4398046511103) :
    Calls Try.prog 23 #[.pointer (some ⟨d, 0, none⟩), .agg #[.int .i64 4, .string nm, .string to, .int .i64 at', .int .i64 m, vb, vp]] w (ChPost W d (fun _ => syncK k nm) w) := by
  have HC : Hid (∀ w1, Below w.heap.size w w1 → Calls Try.prog 12 #[.pointer (some ⟨d, 0, none⟩), .string nm] w1 (DPost W d (syncK k nm))) := fun w1 hb => syncD (h.later hb) hs hk hn
  clear h hk
  go_enter Try.func23, Try.ntmps23
  go_wp2_with fail
  refine (HC.out _ ((Below.refl _ _).alloc (Nat.le_refl _) _)).mono ?_
  rintro e w1 ⟨rfl, h1⟩
  have HP : Hid (ChPost W d (fun _ => syncK k nm) w (.returned (.tuple #[.int .i64 (syncK k nm).1, .bool true])) w1) := ⟨_, Nat.le_refl _, rfl, h1⟩
  clear h1
  generalize (syncK k nm).1 = z at *
  go_wp2
  go_ret2
  exact HP.out

set_option maxHeartbeats 1000000 in
set_option maxRecDepth 1000000 in
theorem changeSyncDir {W w : World} {d n : Nat} {k : Dk} (nm to : ByteArray) (at' m : Int) (vb vp : Value) (h : Dsk W d k w) (hk : k.Dok n) (hn : n ≤ 4398046511103) :
    Calls Try.prog 23 #[.pointer (some ⟨d, 0, none⟩), .agg #[.int .i64 5, .string nm, .string to, .int .i64 at', .int .i64 m, vb, vp]] w (ChPost W d (fun _ => syncDirK k) w) := by
  have HC : Hid (∀ w1, Below w.heap.size w w1 → Calls Try.prog 13 #[.pointer (some ⟨d, 0, none⟩)] w1 (DPost W d (syncDirK k))) := fun w1 hb => syncDirD (h.later hb) hk hn
  clear h hk
  go_enter Try.func23, Try.ntmps23
  go_wp2_with fail
  refine (HC.out _ ((Below.refl _ _).alloc (Nat.le_refl _) _)).mono ?_
  rintro e w1 ⟨rfl, h1⟩
  have HP : Hid (ChPost W d (fun _ => syncDirK k) w (.returned (.tuple #[.int .i64 (syncDirK k).1, .bool true])) w1) := ⟨_, Nat.le_refl _, rfl, h1⟩
  clear h1
  generalize (syncDirK k).1 = z at *
  go_wp2
  go_ret2
  exact HP.out

set_option maxHeartbeats 1000000 in
set_option maxRecDepth 1000000 in
theorem changeRename {W w : World} {d n : Nat} {k : Dk} (nm to : ByteArray) (at' m : Int) (vb vp : Value) (h : Dsk W d k w) (hs : nm.size ≤ maxLen) (ht : to.size ≤ maxLen) (hk : k.Dok n) (hu : k.Uok) (hn : n ≤ 4398046511103) :
    Calls Try.prog 23 #[.pointer (some ⟨d, 0, none⟩), .agg #[.int .i64 6, .string nm, .string to, .int .i64 at', .int .i64 m, vb, vp]] w (ChPost W d (fun _ => renameK k nm to) w) := by
  have HC : Hid (∀ w1, Below w.heap.size w w1 → Calls Try.prog 14 #[.pointer (some ⟨d, 0, none⟩), .string nm, .string to] w1 (DPost W d (renameK k nm to))) := fun w1 hb => renameD (h.later hb) hs ht hk hu hn
  clear h hk hu
  go_enter Try.func23, Try.ntmps23
  go_wp2_with fail
  refine (HC.out _ ((Below.refl _ _).alloc (Nat.le_refl _) _)).mono ?_
  rintro e w1 ⟨rfl, h1⟩
  have HP : Hid (ChPost W d (fun _ => renameK k nm to) w (.returned (.tuple #[.int .i64 (renameK k nm to).1, .bool true])) w1) := ⟨_, Nat.le_refl _, rfl, h1⟩
  clear h1
  generalize (renameK k nm to).1 = z at *
  go_wp2
  go_ret2
  exact HP.out

set_option maxHeartbeats 1000000 in
set_option maxRecDepth 1000000 in
theorem changeRemove {W w : World} {d n : Nat} {k : Dk} (nm to : ByteArray) (at' m : Int) (vb vp : Value) (h : Dsk W d k w) (hs : nm.size ≤ maxLen) (hk : k.Dok n) (hu : k.Uok) (hn : n ≤ 4398046511103) :
    Calls Try.prog 23 #[.pointer (some ⟨d, 0, none⟩), .agg #[.int .i64 7, .string nm, .string to, .int .i64 at', .int .i64 m, vb, vp]] w (ChPost W d (fun _ => removeK k nm) w) := by
  have HC : Hid (∀ w1, Below w.heap.size w w1 → Calls Try.prog 53 #[.pointer (some ⟨d, 0, none⟩), .string nm] w1 (DPost W d (removeK k nm))) := fun w1 hb => removeD (h.later hb) hs hk hu hn
  clear h hk hu
  go_enter Try.func23, Try.ntmps23
  go_wp2_with fail
  refine (HC.out _ ((Below.refl _ _).alloc (Nat.le_refl _) _)).mono ?_
  rintro e w1 ⟨rfl, h1⟩
  have HP : Hid (ChPost W d (fun _ => removeK k nm) w (.returned (.tuple #[.int .i64 (removeK k nm).1, .bool true])) w1) := ⟨_, Nat.le_refl _, rfl, h1⟩
  clear h1
  generalize (removeK k nm).1 = z at *
  go_wp2
  go_ret2
  exact HP.out
end Go.Proofs.Ytadflolbgcdncaa

/-! The law on Rename: its walk. -/
namespace Go.Proofs.Ytadflolbgcdncaa
open Go.RowKit Go.Maps Plain
set_option linter.unusedVariables false
set_option linter.unusedSimpArgs false

theorem op1 {W w1 : World} {d : Nat} (h : Dsk W d s0 w1) : Calls Try.prog 10 #[.pointer (some ⟨d, 0, none⟩), .string ⟨#[110, 97, 109, 101]⟩] w1 fun e w2 => ∃ G, e = .returned (.int .i64 0) ∧ Dsk W d (s1 G) w2 := by
  refine (createD (s := nmA) h szA (fresh_dok _) (by omega)).mono ?_
  rintro e w2 ⟨G, _, rfl, h2⟩
  rw [t1] at h2 ⊢
  exact ⟨G, rfl, h2⟩
theorem op2 {W w1 : World} {d G : Nat} {v : Value} {o : List Nat} (h : Dsk W d (s1 G) w1) (ho : o.length ≤ 1000) (hb : BytesAt W v o) : Calls Try.prog 11 #[.pointer (some ⟨d, 0, none⟩), .string ⟨#[110, 97, 109, 101]⟩, v] w1 fun e w2 => e = .returned (.int .i64 0) ∧ Dsk W d (s2 G o) w2 := by
  have := appendD (s := nmA) h szA hb (d1 G) (u1 G) (by omega)
  rw [t2 G o ho] at this
  exact this
theorem op3 {W w1 : World} {d G : Nat} {o : List Nat} (h : Dsk W d (s2 G o) w1) (ho : o.length ≤ 1000) : Calls Try.prog 12 #[.pointer (some ⟨d, 0, none⟩), .string ⟨#[110, 97, 109, 101]⟩] w1 fun e w2 => e = .returned (.int .i64 0) ∧ Dsk W d (s3 G o) w2 := by
  have := syncD (s := nmA) h szA (d2 G o ho) (by omega)
  rw [t3] at this
  exact this
theorem op4 {W w1 : World} {d G : Nat} {o : List Nat} (h : Dsk W d (s3 G o) w1) (ho : o.length ≤ 1000) : Calls Try.prog 10 #[.pointer (some ⟨d, 0, none⟩), .string ⟨#[110, 97, 109, 101, 46, 116, 109, 112]⟩] w1 fun e w2 => ∃ H, G ≠ H ∧ e = .returned (.int .i64 0) ∧ Dsk W d (s4 G o H) w2 := by
  have hG := h.liveLt (G := G) (.inr rfl)
  refine (createD (s := nmT) h szT (d3 G o ho) (by omega)).mono ?_
  rintro e w2 ⟨H, hH, rfl, h2⟩
  rw [t4] at h2 ⊢
  exact ⟨H, by omega, rfl, h2⟩
theorem op5 {W w1 : World} {d G H : Nat} {v : Value} {o f : List Nat} (h : Dsk W d (s4 G o H) w1) (ho : o.length ≤ 1000) (hf : f.length ≤ 1000) (hne : G ≠ H) (hb : BytesAt W v f) : Calls Try.prog 11 #[.pointer (some ⟨d, 0, none⟩), .string ⟨#[110, 97, 109, 101, 46, 116, 109, 112]⟩, v] w1 fun e w2 => e = .returned (.int .i64 0) ∧ Dsk W d (s5 G o H f) w2 := by
  have := appendD (s := nmT) h szT hb (d4 G H o ho) (u4 G H o ho hne) (by omega)
  rw [t5 G H o f ho hf] at this
  exact this
theorem op6 {W w1 : World} {d G H : Nat} {o f : List Nat} (h : Dsk W d (s5 G o H f) w1) (ho : o.length ≤ 1000) (hf : f.length ≤ 1000) (hne : G ≠ H) : Calls Try.prog 12 #[.pointer (some ⟨d, 0, none⟩), .string ⟨#[110, 97, 109, 101, 46, 116, 109, 112]⟩] w1 fun e w2 => e = .returned (.int .i64 0) ∧ Dsk W d (s6 G o H f) w2 := by
  have := syncD (s := nmT) h szT (d5 G H o f ho hf hne) (by omega)
  rw [t6] at this
  exact this
theorem op7 {W w1 : World} {d G H : Nat} {o f : List Nat} (h : Dsk W d (s6 G o H f) w1) (ho : o.length ≤ 1000) (hf : f.length ≤ 1000) (hne : G ≠ H) : Calls Try.prog 13 #[.pointer (some ⟨d, 0, none⟩)] w1 fun e w2 => e = .returned (.int .i64 0) ∧ Dsk W d (s7 G o H f) w2 := by
  have := syncDirD h (d6 G H o f ho hf hne) (by omega)
  rw [t7] at this
  exact this
theorem op8 {W w1 : World} {d G H : Nat} {o f : List Nat} (h : Dsk W d (s7 G o H f) w1) (ho : o.length ≤ 1000) (hf : f.length ≤ 1000) (hne : G ≠ H) : Calls Try.prog 14 #[.pointer (some ⟨d, 0, none⟩), .string ⟨#[110, 97, 109, 101, 46, 116, 109, 112]⟩, .string ⟨#[110, 97, 109, 101]⟩] w1 fun e w2 => e = .returned (.int .i64 0) ∧ Dsk W d (s8 G o H f) w2 := by
  have := renameD (s := nmT) (t := nmA) h szT szA (d7 G H o f ho hf hne) (u7 G H o f ho hf hne) (by omega)
  rw [t8 G H o f hne] at this
  exact this
theorem op9 {W w1 : World} {d G H : Nat} {o f : List Nat} (h : Dsk W d (s8 G o H f) w1) (ho : o.length ≤ 1000) (hf : f.length ≤ 1000) (hne : G ≠ H) : Calls Try.prog 13 #[.pointer (some ⟨d, 0, none⟩)] w1 fun e w2 => e = .returned (.int .i64 0) ∧ Dsk W d (s9 G o H f) w2 := by
  have := syncDirD h (d8 G H o f ho hf hne) (by omega)
  rw [t9] at this
  exact this
theorem op10 {W w1 : World} {d G H : Nat} {o f : List Nat} (h : Dsk W d (s9 G o H f) w1) (ho : o.length ≤ 1000) (hf : f.length ≤ 1000) (hne : G ≠ H) : Calls Try.prog 17 #[.pointer (some ⟨d, 0, none⟩), .string ⟨#[110, 97, 109, 101]⟩, .int .i64 0, .int .i64 ((f.length : Int) + 1)] w1 fun e w2 => ∃ a l c, e = .returned (.tuple #[.slice a l c, .int .i64 0]) ∧ BytesAt w2 (.slice a l c) f ∧ Below w1.heap.size w1 w2 := by
  refine (readD (s := nmA) h szA (d9 G H o f ho hf hne) 0 (f.length + 1) (by omega) rfl (Nat.zero_le _)).mono ?_
  rintro e w2 ⟨a, l, c, r, rfl, hw, hb⟩
  have e1 : rdB (s9 G o H f) nmA 0 (f.length + 1) = f := by
    show ((F6 G o H f H).seen.drop 0).take (f.length + 1) = f
    rw [F6H, List.drop_zero, List.take_of_length_le (by simp)]
  rw [e1] at hw
  exact ⟨a, l, c, rfl, hw.bytes, hb⟩

/-- What an image of one file, or of two, looks like. -/
structure Pic (w : World) (a : Option Addr) (l c : Nat) (g : Nat) : Prop where
  at' : a = some ⟨g, 0, none⟩
  cap : l ≤ c
  lim : c ≤ 2 ^ 63 - 1
structure Ent (w : World) (g j : Nat) (k : Nm) (b : List Nat) (a : Option Addr) (n c : Nat) : Prop where
  name : w.cell? ⟨g, j * 2, none⟩ = some (.string (str k))
  data : w.cell? ⟨g, j * 2 + 1, none⟩ = some (.slice a n c)
  row : BytesAt w (.slice a n c) b
theorem Ent.later {w w' : World} {g j n c : Nat} {k : Nm} {b : List Nat} {a : Option Addr} (h : Ent w g j k b a n c) (hb : Below w.heap.size w w') : Ent w' g j k b a n c :=
  ⟨by rw [hb.cell (cell_lt h.name)]; exact h.name, by rw [hb.cell (cell_lt h.data)]; exact h.data, h.row.later hb⟩
theorem ImgAt.ent {w : World} {a : Option Addr} {l c base : Nat} {im : List (Nm × List Nat)} (h : ImgAt w (.slice a l c) im base) (h0 : 0 < im.length) : l = im.length ∧ ∃ g, Pic w a l c g ∧ ∀ j k b, im[j]? = some (k, b) → ∃ a' n' c', Ent w g j k b a' n' c' := by
  obtain ⟨ts, r, blk, hm⟩ := h
  have hl := hm.len
  rcases hm.row with ⟨_, rfl, _⟩ | ⟨g, cap, hr, e, hg, h1, h2, h3, h4, h5⟩
  · simp at hl; omega
  · simp only [Value.slice.injEq] at e
    obtain ⟨rfl, rfl, rfl⟩ := e
    unfold maxLen at h2
    refine ⟨hl, g, ⟨rfl, h1, by omega⟩, fun j k b hj => ?_⟩
    have hjl := (List.getElem?_eq_some_iff.mp hj).1
    obtain ⟨dv, e1, ho⟩ := hm.one j (k, b) hj
    have hrow := hm.row
    rw [hr] at hrow
    obtain ⟨c0, c1⟩ := hrow.at (j := j) (by omega)
    have e2 : ts.getD j Fi.none = ⟨str k, dv⟩ := by simp [List.getD_eq_getElem?_getD, e1]
    rw [e2] at c0 c1
    obtain ⟨a', n', c', rfl⟩ := isSliceO ho
    exact ⟨a', n', c', c0, c1, ho.bytes⟩
theorem op8c {W w1 : World} {d G H : Nat} {o f : List Nat} {a : Option Addr} {m c : Nat} {ps : List Int} (h : Dsk W d (s8 G o H f) w1) (ho : o.length ≤ 1000) (hf : f.length ≤ 1000) (hne : G ≠ H) (hp : PicksAt W (.slice a m c) ps) (hpo : PicksOff W.heap.size (.slice a m c)) :
    Calls Try.prog 15 #[.pointer (some ⟨d, 0, none⟩), .slice a m c] w1 fun e w2 => ∃ l c g, e = .returned (.slice (some ⟨g, 0, none⟩) l c) ∧ l ≤ c ∧ c ≤ 2 ^ 63 - 1 ∧ Dsk W d (s8 G o H f) w2 ∧
      ((l = 2 ∧ ∃ a1 n1 c1 a2 n2 c2, Ent w2 g 0 kA o a1 n1 c1 ∧ Ent w2 g 1 kT f a2 n2 c2) ∨ (l = 1 ∧ ∃ a1 n1 c1, Ent w2 g 0 kA f a1 n1 c1)) := by
  refine (crashD h (d8 G H o f ho hf hne) hp hpo ?_ ?_).mono ?_
  · intro p hp
    rcases crL8 G H o f ps with e | e <;> rw [e] at hp
    · simp only [List.mem_cons, List.not_mem_nil, or_false] at hp
      rcases hp with rfl | rfl
      · exact .inl (.inr rfl)
      · exact .inr rfl
    · simp only [List.mem_cons, List.not_mem_nil, or_false] at hp
      subst hp
      exact .inr rfl
  · rcases crL8 G H o f ps with e | e <;> rw [e] <;> simp
  · rintro e w2 ⟨a', l', c', rfl, hi, hd⟩
    rcases cr8 G H o f hne ps with e | e <;> rw [e] at hi
    · obtain ⟨hl, g, ⟨rfl, q1, q2⟩, he⟩ := hi.ent (by simp)
      obtain ⟨a1, n1, c1, h1⟩ := he 0 _ _ rfl
      obtain ⟨a2, n2, c2, h2⟩ := he 1 _ _ rfl
      exact ⟨l', c', g, rfl, q1, q2, hd, .inl ⟨hl, a1, n1, c1, a2, n2, c2, h1, h2⟩⟩
    · obtain ⟨hl, g, ⟨rfl, q1, q2⟩, he⟩ := hi.ent (by simp)
      obtain ⟨a1, n1, c1, h1⟩ := he 0 _ _ rfl
      exact ⟨l', c', g, rfl, q1, q2, hd, .inr ⟨hl, a1, n1, c1, h1⟩⟩
theorem op9c {W w1 : World} {d G H : Nat} {o f : List Nat} {a : Option Addr} {m c : Nat} {ps : List Int} (h : Dsk W d (s9 G o H f) w1) (ho : o.length ≤ 1000) (hf : f.length ≤ 1000) (hne : G ≠ H) (hp : PicksAt W (.slice a m c) ps) (hpo : PicksOff W.heap.size (.slice a m c)) :
    Calls Try.prog 15 #[.pointer (some ⟨d, 0, none⟩), .slice a m c] w1 fun e w2 => ∃ c g a1 n1 c1, e = .returned (.slice (some ⟨g, 0, none⟩) 1 c) ∧ 1 ≤ c ∧ c ≤ 2 ^ 63 - 1 ∧ Dsk W d (s9 G o H f) w2 ∧ Ent w2 g 0 kA f a1 n1 c1 := by
  refine (crashD h (d9 G H o f ho hf hne) hp hpo ?_ ?_).mono ?_
  · intro p hp
    rw [crL9] at hp
    simp only [List.mem_cons, List.not_mem_nil, or_false] at hp
    subst hp
    exact .inr rfl
  · rw [crL9]; simp
  · rintro e w2 ⟨a', l', c', rfl, hi, hd⟩
    rw [cr9] at hi
    obtain ⟨hl, g, ⟨rfl, q1, q2⟩, he⟩ := hi.ent (by simp)
    obtain ⟨a1, n1, c1, h1⟩ := he 0 _ _ rfl
    have hl' : l' = 1 := hl
    subst hl'
    exact ⟨c', g, a1, n1, c1, rfl, q1, q2, hd, h1⟩
theorem below_drewN' (w : World) (n : Nat) : Below w.heap.size w (w.drewN n) := ⟨rfl, rfl, rfl, Nat.le_refl _, fun _ _ => rfl⟩
theorem sameB (va vb : Value) (la lb : List Nat) (w : World) (ha : BytesAt w va la) (hb : BytesAt w vb lb) : Calls Try.prog 16 #[va, vb] w fun e w' => e = .returned (.bool (decide (la = lb))) ∧ Below w.heap.size w w' := by
  refine (sameBytes va vb la lb w ha hb).mono ?_
  rintro e w' ⟨rfl, n, rfl⟩
  exact ⟨rfl, below_drewN' w n⟩
end Go.Proofs.Ytadflolbgcdncaa

/-! A step that appends; any changing step. -/
namespace Go.Proofs.Ytadflolbgcdncaa
open Go.RowKit Go.Maps Plain
set_option linter.unusedVariables false
set_option linter.unusedSimpArgs false

theorem Own.apart {w w' : World} {S : Nat → Prop} {v : Value} {l : List Nat} {g : Nat} (h : Own w v l (some g)) (hc : Chg S w w') (hg : ¬ S g) : Own w' v l (some g) :=
  h.of_block hc.size (fun g' e => by simp at e; subst e; exact hc.block _ h.lt hg)
theorem BytesAt.head {w : World} {g cap n : Nat} {l m : List Nat} (h : Own w (.slice (some ⟨g, 0, none⟩) n cap) (l ++ m) (some g)) : BytesAt w (.slice (some ⟨g, 0, none⟩) l.length cap) l := by
  have := h.bytes.take l.length (by simp)
  rwa [List.take_left'] at this
  rfl

set_option maxHeartbeats 4000000 in
set_option maxRecDepth 1000000 in
theorem changeAppend {W w : World} {d n : Nat} {k : Dk} (nm to : ByteArray) (at' m : Int) (vb vp : Value) (l : List Nat) (h : Dsk W d k w) (hs : nm.size ≤ maxLen) (hb : BytesAt w vb l) (hw : ∀ w', Below W.heap.size W w' → BytesAt w' vb l) (hl : l.length ≤ 140737488351232) (hk : k.Dok n) (hu : k.Uok) (hn : n ≤ 4398046511103) :
    Calls Try.prog 23 #[.pointer (some ⟨d, 0, none⟩), .agg #[.int .i64 2, .string nm, .string to, .int .i64 at', .int .i64 m, vb, vp]] w (ChPost W d (fun _ => appendK k nm l) w) := by
  obtain ⟨h1, S, h2, h3⟩ := h
  have hS := h2.rng
  have HB : Hid (BytesAt w vb l) := hb
  have HWW : Hid (∀ w', Below W.heap.size W w' → BytesAt w' vb l) := hw
  have H0 : Hid (Below W.heap.size W w ∧ DiskAt w d k S ∧ (∀ x, S x → W.heap.size ≤ x) ∧ ∀ x, S x → x < w.heap.size) := ⟨h1, h2, h3, hS⟩
  have HAP : Hid (∀ (w1 : World) (g cap : Nat), Below w.heap.size w w1 → w.heap.size ≤ g → Own w1 (.slice (some ⟨g, 0, none⟩) (l.length + 8) cap) (l ++ marks 8) (some g) → Calls Try.prog 11 #[.pointer (some ⟨d, 0, none⟩), .string nm, .slice (some ⟨g, 0, none⟩) l.length cap] w1 (OpPost d (appendK k nm l) S w1)) := fun w1 g cap hb1 hg ho =>
    appendOf d k n S nm hs _ l w1 (h2.later hb1) hk.ok hu hn (fun w' hc => BytesAt.head (ho.apart hc (fun e => by have := hS g e; omega)))
  have hW0 := h1.size
  obtain ⟨R, hR⟩ : ∃ R, appendK k nm l = R := ⟨_, rfl⟩
  rw [hR] at HAP
  rw [show (fun _ : Nat => appendK k nm l) = fun _ => R by rw [hR]]
  clear h1 h2 h3 hS hb hw hk hu hR
  go_enter Try.func23, Try.ntmps23
  go_wp2_with fail
  refine (roomy _ l _ (HB.out.later ((Below.refl _ _).alloc (Nat.le_refl _) _)) hl).mono ?_
  rintro e w1 ⟨g, cap, rfl, ho, hg, hb1⟩
  have HO : Hid (Own w1 (.slice (some ⟨g, 0, none⟩) (l.length + 8) cap) (l ++ marks 8) (some g)) := ho
  have hgw : w.heap.size + 1 ≤ g := by simpa using hg
  have HB1 : Hid (Below (w.heap.size + 1) (w.alloc (.cells #[.int .i64 2, .string nm, .string to, .int .i64 at', .int .i64 m, vb, vp] 44)) w1) := by unfold Hid; simpa using hb1
  have HBL : Hid (Below w.heap.size w w1) := ((Below.refl _ _).alloc (Nat.le_refl _) _).trans (HB1.out.mono (by omega))
  clear ho hg hb1
  have c1 : w1.cell? ⟨w.heap.size, 1, none⟩ = some (.string nm) := by
    rw [HB1.out.cell (p := ⟨_, _, none⟩) (by simp)]; simp
  have c5 : w1.cell? ⟨w.heap.size, 5, none⟩ = some vb := by
    rw [HB1.out.cell (p := ⟨_, _, none⟩) (by simp)]; simp
  have hs1 := HB1.out.size
  go_wp2_with fail
  refine (HAP.out w1 g cap HBL.out (by omega) HO.out).mono ?_
  rintro e w2 ⟨rfl, hd2, hc2⟩
  have hs2 := hc2.size
  have hglt : g < w1.heap.size := HO.out.lt
  have hnS : ∀ x, w.heap.size ≤ x → ¬ S x := fun x hx e => by have := H0.out.2.2.2 x e; omega
  have HD2 : Hid (DiskAt w2 d R.2 (Ext S w1 w2) ∧ (∀ x, Ext S w1 w2 x → W.heap.size ≤ x) ∧ ¬ Ext S w1 w2 g) := by
    refine ⟨hd2, fun x hx => ?_, fun hx => ?_⟩
    · rcases hx with hx | hx
      · exact H0.out.2.2.1 x hx
      · simp at hs1; omega
    · rcases hx with hx | hx
      · exact hnS g (by omega) hx
      · omega
  have HBB : Hid (Below W.heap.size W w2) := (H0.out.1.trans (HBL.out.mono hW0)).trans (hc2.below (by simp at hs1; omega) H0.out.2.2.1)
  have d5 : w2.cell? ⟨w.heap.size, 5, none⟩ = some vb := by
    rw [World.cell?_of_block (w := w1) (a := ⟨w.heap.size, 5, none⟩) (hc2.block w.heap.size (by simp at hs1; omega) (hnS _ (Nat.le_refl _)))]; exact c5
  have HO2 : Hid (Own w2 (.slice (some ⟨g, 0, none⟩) (l.length + 8) cap) (l ++ marks 8) (some g)) := HO.out.apart hc2 (hnS g (by omega))
  clear c1 c5 HO HB1 hs1 hd2 hc2 hnS HAP
  go_wp2_with fail
  refine (kept g cap l l vb w2 (HWW.out w2 HBB.out) rfl HO2.out).mono ?_
  rintro e w3 ⟨rfl, q, rfl⟩
  obtain ⟨hby, hr⟩ := HO2.out
  rcases hr with ⟨e, _⟩ | ⟨g', cap', e, e2, hg, h1, h2, h3, h4, h5⟩
  · simp at e
  simp at e; subst e
  simp only [Value.slice.injEq, true_and] at e2
  obtain ⟨-, rfl⟩ := e2
  have hc8 : l.length + 8 ≤ cap := by simp [marks_len] at h1; omega
  have H3 : Hid (∀ j, j < cap → w2.frozen? ⟨g, j, none⟩ = false) := h3
  have H4 : Hid (∀ j, j < cap → (w2.cell? ⟨g, j, none⟩).isSome = true) := h4
  unfold maxLen at h2
  clear hby h1 h3 h4 h5 HO2 hg d5
  simp only [decide_true]
  go_wp2
  go_loopw [9] (fun i wr => ∃ kk : Nat, kk ≤ l.length ∧ i = .int .i64 kk ∧ Below W.heap.size W wr ∧ DiskAt wr d R.2 (Ext S w1 w2) ∧ (∀ j, wr.frozen? ⟨g, j, none⟩ = w2.frozen? ⟨g, j, none⟩) ∧ (∀ j, j < cap → (wr.cell? ⟨g, j, none⟩).isSome = true)) (fun i _ => l.length - (intOf i).toNat)
  case atStart => exact ⟨0, by omega, rfl, HBB.out.trans ((below_drewN' w2 q).mono HBB.out.size), HD2.out.1.later (below_drewN' w2 q), fun _ => rfl, H4.out⟩
  case round =>
    obtain ⟨kk, hkk, rfl, hbl, hdd, hfr, hsome⟩ := hrel
    by_cases hlt : kk < l.length
    · obtain ⟨old, hold⟩ := Option.isSome_iff_exists.mp (hsome kk (by omega))
      have hfz : wr.frozen? ⟨g, kk, none⟩ = false := by rw [hfr]; exact H3.out kk (by omega)
      have HREL : Hid (Below W.heap.size W (wr.setCell ⟨g, kk, none⟩ (.int .u8 77)) ∧ DiskAt (wr.setCell ⟨g, kk, none⟩ (.int .u8 77)) d R.2 (Ext S w1 w2) ∧ (∀ j, (wr.setCell ⟨g, kk, none⟩ (.int .u8 77)).frozen? ⟨g, j, none⟩ = w2.frozen? ⟨g, j, none⟩) ∧
          (∀ j, j < cap → ((wr.setCell ⟨g, kk, none⟩ (.int .u8 77)).cell? ⟨g, j, none⟩).isSome = true)) := by
        refine ⟨hbl.setCell (by simp; omega) _, hdd.frame (by simp) (fun x hx => (grow_set wr g kk (.int .u8 77)).block x (hdd.rng x hx) (fun e => by simp at e; subst e; exact HD2.out.2.2 hx)), fun j => ?_, fun j hj => ?_⟩
        · rw [← hfr j]; exact World.frozen?_setCells g [.int .u8 77] kk wr _
        · exact isSome_setCells g [.int .u8 77] kk wr _ (hsome j hj)
      clear hbl hfr hsome hdd
      go_wp2
      go_roundw
      case rel => exact ⟨kk + 1, by omega, by go_num, HREL.out⟩
      case measure => simp [intOf]; omega
    · have HP : Hid (ChPost W d (fun _ => R) w (.returned (.tuple #[.int .i64 R.1, .bool true])) wr) := ⟨_, Nat.le_refl _, rfl, hbl, _, hdd, HD2.out.2.1⟩
      clear hbl hfr hsome hdd
      go_wp2
      go_ret2
      exact HP.out
end Go.Proofs.Ytadflolbgcdncaa

/-! What is used is what the files have: kept by every operation. -/
namespace Go.Proofs.Ytadflolbgcdncaa
open Go.RowKit Go.Maps Plain
set_option linter.unusedVariables false
set_option linter.unusedSimpArgs false

theorem ins_perm (x : Nm × Nat) : ∀ L : Dir, (ins x L).Perm (x :: L)
  | [] => List.Perm.refl _
  | y :: r => by
    unfold ins
    split
    · exact List.Perm.refl _
    · exact ((ins_perm x r).cons y).trans (List.Perm.swap x y r)
theorem put_perm (L : Dir) (k : Nm) (g : Nat) : (put L k g).Perm ((k, g) :: del L k) := ins_perm _ _
theorem look_none {L : Dir} {k : Nm} (h : look L k = none) : ∀ p ∈ L, p.1 ≠ k := by
  intro p hp e
  obtain ⟨g, hg⟩ := look_some (L := L) (k := k) (List.mem_map.mpr ⟨p, hp, e⟩)
  rw [h] at hg
  simp at hg
theorem del_none {L : Dir} {k : Nm} (h : look L k = none) : del L k = L := by
  unfold del
  rw [List.filter_eq_self]
  intro p hp
  have := look_none h p hp
  simp [this]
theorem look_of_mem {L : Dir} {k : Nm} {g : Nat} (hn : (L.map (·.1)).Nodup) (h : (k, g) ∈ L) : look L k = some g := by
  induction L with
  | nil => simp at h
  | cons p r ih =>
    rw [List.map_cons, List.nodup_cons] at hn
    unfold look
    rw [List.find?_cons]
    rcases List.mem_cons.mp h with e | e
    · subst e; simp
    · have hne : p.1 ≠ k := fun e2 => hn.1 (List.mem_map.mpr ⟨_, e, e2.symm⟩)
      have : (p.1 == k) = false := by simpa using hne
      rw [this]
      exact ih hn.2 e
theorem del_cons (p : Nm × Nat) (L : Dir) (k : Nm) : del (p :: L) k = if p.1 = k then del L k else p :: del L k := by
  unfold del
  rw [List.filter_cons]
  by_cases h : p.1 = k <;> simp [h]
theorem look_perm {L : Dir} {k : Nm} {g : Nat} (hn : (L.map (·.1)).Nodup) (h : look L k = some g) : L.Perm ((k, g) :: del L k) := by
  induction L with
  | nil => simp [look] at h
  | cons p r ih =>
    rw [List.map_cons, List.nodup_cons] at hn
    rw [del_cons]
    by_cases e : p.1 = k
    · have hp : p = (k, g) := by
        unfold look at h
        rw [List.find?_cons, show (p.1 == k) = true by simpa using e] at h
        simp at h
        rw [← e, ← h]
      have hd : del r k = r := by
        unfold del
        rw [List.filter_eq_self]
        intro q hq
        have : q.1 ≠ k := fun e2 => hn.1 (List.mem_map.mpr ⟨q, hq, by rw [e2, e]⟩)
        simp [this]
      rw [if_pos e, hd, hp]
    · rw [if_neg e]
      have h' : look r k = some g := by
        unfold look at h ⊢
        rw [List.find?_cons, show (p.1 == k) = false by simpa using e] at h
        exact h
      exact ((ih hn.2 h').cons p).trans (List.Perm.swap _ _ _)
theorem look_del {L : Dir} {s t : Nm} (h : s ≠ t) : look (del L t) s = look L s := by
  induction L with
  | nil => rfl
  | cons p r ih =>
    rw [del_cons]
    by_cases e : p.1 = t
    · rw [if_pos e, ih]
      unfold look
      rw [List.find?_cons, show (p.1 == s) = false by simpa using fun e2 : p.1 = s => h (by rw [← e2, e])]
    · rw [if_neg e]
      unfold look at ih ⊢
      rw [List.find?_cons, List.find?_cons]
      by_cases e3 : p.1 = s
      · rw [show (p.1 == s) = true by simpa using e3]
      · rw [show (p.1 == s) = false by simpa using e3]
        exact ih

def tT (f : Nat → Nat) (L : Dir) : Nat := (L.map fun p => f p.2).sum
theorem tT_perm {f : Nat → Nat} {L M : Dir} (h : L.Perm M) : tT f L = tT f M := (h.map _).sum_nat
theorem tT_cons (f : Nat → Nat) (p : Nm × Nat) (L : Dir) : tT f (p :: L) = f p.2 + tT f L := by simp [tT]
theorem tT_congr {f f' : Nat → Nat} {L : Dir} (h : ∀ p ∈ L, f p.2 = f' p.2) : tT f L = tT f' L := by
  unfold tT
  rw [List.map_congr_left h]
theorem tT_mem {f : Nat → Nat} {L : Dir} {p : Nm × Nat} (h : p ∈ L) : f p.2 ≤ tT f L := by
  induction L with
  | nil => simp at h
  | cons q r ih =>
    rw [tT_cons]
    rcases List.mem_cons.mp h with e | e
    · subst e; omega
    · have := ih e; omega
theorem tT_upd {f f' : Nat → Nat} {L : Dir} {G : Nat} (hn : (L.map (·.2)).Nodup) (hG : G ∈ L.map (·.2)) (h : ∀ x, x ≠ G → f' x = f x) : tT f' L + f G = tT f L + f' G := by
  induction L with
  | nil => simp at hG
  | cons p r ih =>
    rw [List.map_cons, List.nodup_cons] at hn
    rw [tT_cons, tT_cons]
    by_cases e : p.2 = G
    · have : tT f' r = tT f r := tT_congr (fun q hq => h _ (fun e2 => hn.1 (List.mem_map.mpr ⟨q, hq, by rw [e2, e]⟩)))
      rw [this, e]; omega
    · have hG' : G ∈ r.map (·.2) := by
        rw [List.map_cons, List.mem_cons] at hG
        rcases hG with h1 | h1
        · exact absurd h1.symm e
        · exact h1
      have := ih hn.2 hG'
      rw [h p.2 e]; omega

def Dk.len (k : Dk) : Nat → Nat := fun G => (k.file G).seen.length
/-- No name twice, no file under two names; what is used is what the files have. -/
structure Dk.Sum (k : Dk) : Prop where
  keys : (k.L.map (·.1)).Nodup
  files : (k.L.map (·.2)).Nodup
  used : k.used = (tT k.len k.L : Int)
  quota : 0 ≤ k.quota ∧ k.quota ≤ 1073741824
  lim : k.used ≤ 1073741824
theorem Dk.Sum.uok {k : Dk} (h : k.Sum) : k.Uok :=
  ⟨⟨by rw [h.used]; omega, h.lim⟩, h.quota, fun p hp => by have := tT_mem (f := k.len) hp; have h2 := h.used; unfold Dk.len at this h2; omega⟩
theorem Dk.Sum.spent {k : Dk} (h : k.Sum) : k.spent.Sum := ⟨h.keys, h.files, h.used, h.quota, h.lim⟩
theorem look_file {L : Dir} {s : Nm} {g : Nat} (h : look L s = some g) : g ∈ L.map (·.2) := List.mem_map.mpr ⟨_, look_mem h, rfl⟩

theorem create_sum {k : Dk} {G : Nat} {s : ByteArray} (h : k.Sum) (hl : ∀ p ∈ k.L, k.live p.2) (hG : ¬ k.live G) : (createK k s G).2.Sum := by
  unfold createK
  split
  · exact h
  · split
    · exact h
    · rename_i hs
      have hn : look k.L s.data.toList = none := by cases hh : look k.L s.data.toList with
        | none => rfl
        | some g => rw [hh] at hs; simp at hs
      split
      · exact h
      · split
        · have hp : ((k.spent.addFile G).did (DC.mk s.data.toList G)).L.Perm ((s.data.toList, G) :: k.L) := by
            have := put_perm k.L s.data.toList G
            rw [del_none hn] at this
            exact this
          have hGL : ∀ p ∈ k.L, p.2 ≠ G := fun p hp e => hG (e ▸ hl p hp)
          refine ⟨(hp.map _).nodup_iff.mpr ?_, (hp.map _).nodup_iff.mpr ?_, ?_, h.quota, h.lim⟩
          · rw [List.map_cons, List.nodup_cons]
            refine ⟨fun hm => ?_, h.keys⟩
            obtain ⟨p, hp1, hp2⟩ := List.mem_map.mp hm
            exact look_none hn p hp1 hp2
          · rw [List.map_cons, List.nodup_cons]
            refine ⟨fun hm => ?_, h.files⟩
            obtain ⟨p, hp1, hp2⟩ := List.mem_map.mp hm
            exact hGL p hp1 hp2
          · rw [tT_perm hp, tT_cons]
            have e1 : ((k.spent.addFile G).did (DC.mk s.data.toList G)).len G = 0 := by
              show (upd k.file G ⟨[], [], []⟩ G).seen.length = 0
              rw [upd_same]; rfl
            have e2 : tT ((k.spent.addFile G).did (DC.mk s.data.toList G)).len k.L = tT k.len k.L := tT_congr (fun p hp => by
              show (upd k.file G ⟨[], [], []⟩ p.2).seen.length = _
              rw [upd_other _ _ _ _ (hGL p hp)]; rfl)
            show k.used = _
            rw [e1, e2, h.used]; omega
        · exact h.spent
theorem append_sum {k : Dk} {s : ByteArray} {b : List Nat} (h : k.Sum) : (appendK k s b).2.Sum := by
  unfold appendK
  split
  · split
    · exact h
    · rename_i hq
      split
      · rename_i G hG
        split
        · have hT := tT_upd (f := k.len) (f' := ((k.spent.setFile G ((k.file G).add b)).uses (k.used + b.length)).len) h.files (look_file hG) (fun x hx => by
            show (upd k.file G ((k.file G).add b) x).seen.length = _
            rw [upd_other _ _ _ _ hx]; rfl)
          have e1 : ((k.spent.setFile G ((k.file G).add b)).uses (k.used + b.length)).len G = k.len G + b.length := by
            show (upd k.file G ((k.file G).add b) G).seen.length = _
            rw [upd_same]
            simp [Fl.add, Dk.len]
          have hu := h.used
          have hq1 := h.quota
          have hlim := h.lim
          refine ⟨h.keys, h.files, ?_, h.quota, ?_⟩
          · show k.used + (b.length : Int) = (tT ((k.spent.setFile G ((k.file G).add b)).uses (k.used + b.length)).len k.L : Int)
            omega
          · show k.used + (b.length : Int) ≤ 1073741824
            omega
        · exact h.spent
      · exact h
  · exact h
theorem trunc_sum {k : Dk} {s : ByteArray} {m : Int} (h : k.Sum) : (truncK k s m).2.Sum := by
  unfold truncK
  split
  · split
    · rename_i G hG
      split
      · exact h
      · rename_i hm
        split
        · have hT := tT_upd (f := k.len) (f' := ((k.spent.uses (k.used - ((k.file G).seen.length - m))).setFile G ((k.file G).trim m.toNat)).len) h.files (look_file hG) (fun x hx => by
            show (upd k.file G ((k.file G).trim m.toNat) x).seen.length = _
            rw [upd_other _ _ _ _ hx]; rfl)
          have e1 : ((k.spent.uses (k.used - ((k.file G).seen.length - m))).setFile G ((k.file G).trim m.toNat)).len G = m.toNat := by
            show (upd k.file G ((k.file G).trim m.toNat) G).seen.length = _
            rw [upd_same]
            simp [Fl.trim]
            omega
          have e2 : k.len G = (k.file G).seen.length := rfl
          have hu := h.used
          have hlim := h.lim
          refine ⟨h.keys, h.files, ?_, h.quota, ?_⟩
          · show k.used - (((k.file G).seen.length : Int) - m) = (tT ((k.spent.uses (k.used - ((k.file G).seen.length - m))).setFile G ((k.file G).trim m.toNat)).len k.L : Int)
            omega
          · show k.used - (((k.file G).seen.length : Int) - m) ≤ 1073741824
            omega
        · exact h.spent
    · exact h
  · exact h
theorem sync_sum {k : Dk} {s : ByteArray} (h : k.Sum) : (syncK k s).2.Sum := by
  unfold syncK
  split
  · split
    · rename_i G hG
      split
      · refine ⟨h.keys, h.files, ?_, h.quota, h.lim⟩
        show k.used = (tT _ k.L : Int)
        rw [h.used, tT_congr (f := k.len) (fun p hp => ?_)]
        show (k.file p.2).seen.length = (upd k.file G ⟨(k.file G).seen, (k.file G).seen, []⟩ p.2).seen.length
        by_cases e : p.2 = G
        · rw [e, upd_same]
        · rw [upd_other _ _ _ _ e]
      · exact h.spent
    · exact h
  · exact h
theorem syncDir_sum {k : Dk} (h : k.Sum) : (syncDirK k).2.Sum := by
  unfold syncDirK
  split
  · exact h
  · split
    · exact ⟨h.keys, h.files, h.used, h.quota, h.lim⟩
    · exact h.spent
theorem sub_nodup {L M : Dir} {p : Nm × Nat} (h : (L.map (·.2)).Nodup) (hp : L.Perm (p :: M)) : (M.map (·.2)).Nodup ∧ ∀ q ∈ M, q.2 ≠ p.2 := by
  have := (hp.map (·.2)).nodup_iff.mp h
  rw [List.map_cons, List.nodup_cons] at this
  exact ⟨this.2, fun q hq e => this.1 (List.mem_map.mpr ⟨q, hq, e⟩)⟩
theorem sub_keys {L M : Dir} {p : Nm × Nat} (h : (L.map (·.1)).Nodup) (hp : L.Perm (p :: M)) : (M.map (·.1)).Nodup ∧ ∀ q ∈ M, q.1 ≠ p.1 := by
  have := (hp.map (·.1)).nodup_iff.mp h
  rw [List.map_cons, List.nodup_cons] at this
  exact ⟨this.2, fun q hq e => this.1 (List.mem_map.mpr ⟨q, hq, e⟩)⟩
theorem remove_sum {k : Dk} {s : ByteArray} (h : k.Sum) : (removeK k s).2.Sum := by
  unfold removeK
  split
  · rename_i h0
    split
    · obtain ⟨G, hG, _⟩ := fnd_ok h0
      have hp := look_perm h.keys hG
      have hs : sizeK k s = k.len G := by unfold sizeK; rw [hG]; rfl
      have ht := tT_perm (f := k.len) hp
      rw [tT_cons] at ht
      have ht' : tT k.len k.L = k.len G + tT k.len (del k.L s.data.toList) := ht
      have hu := h.used
      have hlim := h.lim
      refine ⟨(sub_keys h.keys hp).1, (sub_nodup h.files hp).1, ?_, h.quota, ?_⟩
      · show k.used - (sizeK k s : Int) = (tT k.len (del k.L s.data.toList) : Int)
        omega
      · show k.used - (sizeK k s : Int) ≤ 1073741824
        omega
    · exact h.spent
  · exact h
theorem rename_sum {k : Dk} {s t : ByteArray} (h : k.Sum) : (renameK k s t).2.Sum := by
  unfold renameK
  split
  · exact h
  · split
    · exact h
    · rename_i hst
      have hne : s.data.toList ≠ t.data.toList := fun e => hst (by rw [← str_of s, ← str_of t, e])
      split
      · rename_i h0
        split
        · obtain ⟨g, hg, _⟩ := fnd_ok h0
          have hon : ((k.spent.uses (k.used - sizeK k t)).did (DC.mv s.data.toList t.data.toList)).L = del (put k.L t.data.toList g) s.data.toList := by
            show DC.on k.L (DC.mv s.data.toList t.data.toList) = _
            rw [DC.on_mv, hg]; rfl
          have hpL : ((k.spent.uses (k.used - sizeK k t)).did (DC.mv s.data.toList t.data.toList)).L.Perm ((t.data.toList, g) :: del (del k.L t.data.toList) s.data.toList) := by
            rw [hon]
            have := (put_perm k.L t.data.toList g).filter (fun p => !(p.1 == s.data.toList))
            refine this.trans ?_
            show (del ((t.data.toList, g) :: del k.L t.data.toList) s.data.toList).Perm _
            rw [del_cons, if_neg (fun e => hne e.symm)]
          have hlen : ((k.spent.uses (k.used - sizeK k t)).did (DC.mv s.data.toList t.data.toList)).len = k.len := rfl
          have hu := h.used
          have hlim := h.lim
          have hd : look (del k.L t.data.toList) s.data.toList = some g := by rw [look_del hne]; exact hg
          have fin : ∀ M : Dir, del k.L t.data.toList = M → (M.map (·.1)).Nodup → (∀ q ∈ M, q.1 ≠ t.data.toList) → (M.map (·.2)).Nodup → (tT k.len k.L = sizeK k t + tT k.len M) → ((k.spent.uses (k.used - sizeK k t)).did (DC.mv s.data.toList t.data.toList)).Sum := by
            intro M hM n1 n2 n3 hT
            rw [hM] at hd hpL
            have hpM := look_perm n1 hd
            obtain ⟨a1, a2⟩ := sub_keys n1 hpM
            obtain ⟨b1, b2⟩ := sub_nodup n3 hpM
            have hTM := tT_perm (f := k.len) hpM
            rw [tT_cons] at hTM
            have hTM' : tT k.len M = k.len g + tT k.len (del M s.data.toList) := hTM
            refine ⟨(hpL.map _).nodup_iff.mpr ?_, (hpL.map _).nodup_iff.mpr ?_, ?_, h.quota, ?_⟩
            · rw [List.map_cons, List.nodup_cons]
              refine ⟨fun hm => ?_, a1⟩
              obtain ⟨q, hq1, hq2⟩ := List.mem_map.mp hm
              exact n2 q (mem_del hq1) hq2
            · rw [List.map_cons, List.nodup_cons]
              refine ⟨fun hm => ?_, b1⟩
              obtain ⟨q, hq1, hq2⟩ := List.mem_map.mp hm
              exact b2 q hq1 hq2
            · rw [hlen, tT_perm hpL, tT_cons]
              show k.used - (sizeK k t : Int) = ((k.len g + tT k.len (del M s.data.toList) : Nat) : Int)
              omega
            · show k.used - (sizeK k t : Int) ≤ 1073741824
              omega
          cases ht : look k.L t.data.toList with
          | none =>
            have hs : sizeK k t = 0 := by unfold sizeK; rw [ht]; rfl
            refine fin k.L (del_none ht) h.keys (look_none ht) h.files (by rw [hs]; omega)
          | some x =>
            have hp := look_perm h.keys ht
            have hs : sizeK k t = k.len x := by unfold sizeK; rw [ht]; rfl
            have hT := tT_perm (f := k.len) hp
            rw [tT_cons] at hT
            obtain ⟨a1, a2⟩ := sub_keys h.keys hp
            exact fin _ rfl a1 a2 (sub_nodup h.files hp).1 (by rw [hs]; exact hT)
        · exact h.spent
      · exact h
end Go.Proofs.Ytadflolbgcdncaa

/-! Fuse. -/
namespace Go.Proofs.Ytadflolbgcdncaa
open Go.RowKit Go.Maps Plain
set_option linter.unusedVariables false
set_option linter.unusedSimpArgs false
set_option maxRecDepth 1000000

def Dk.fuses (k : Dk) (n : Int) : Dk := { k with fused := decide (0 ≤ n), left := n }
def fuseK (k : Dk) (n : Int) : Dk := if k.dead then k else k.fuses n
theorem fuseSt {S : Nat → Prop} {w w1 : World} {d : Nat} {k : Dk} (h : St S w d k w1) (n : Int) (b : Bool) (hb : b = decide (0 ≤ n)) : St S w d (k.fuses n) ((w1.setCell ⟨d, 6, none⟩ (.bool b)).setCell ⟨d, 7, none⟩ (.int .i64 n)) := by
  subst hb
  obtain ⟨⟨ms, md, vc, rc, Sf, hm, hS1, hS2, hS3⟩, hc⟩ := h
  have hg := grow_trans (grow_set w1 d 6 (.bool (decide (0 ≤ n)))) (grow_set (w1.setCell ⟨d, 6, none⟩ (.bool (decide (0 ≤ n)))) d 7 (.int .i64 n)) (.inl rfl)
  have hcl := dset (dset hm.cells 6 (.bool (decide (0 ≤ n)))) 7 (.int .i64 n)
  have hsz : ((w1.setCell ⟨d, 6, none⟩ (.bool (decide (0 ≤ n)))).setCell ⟨d, 7, none⟩ (.int .i64 n)).heap.size = w1.heap.size := by simp
  generalize (w1.setCell ⟨d, 6, none⟩ (.bool (decide (0 ≤ n)))).setCell ⟨d, 7, none⟩ (.int .i64 n) = W at *
  have keep : ∀ x, x < w1.heap.size → x ≠ d → W.heap[x]? = w1.heap[x]? := fun x hx h1 => hg.block x hx (by simpa using h1)
  have hE : ∀ x, Ext S w w1 x → Ext S w W x := fun x hx => by
    rcases hx with hx | hx
    · exact .inl hx
    · exact .inr ⟨hx.1, by omega⟩
  have hdS : S d ∨ w.heap.size ≤ d := by
    rcases hS1 d (.inl rfl) with h | h
    · exact .inl h
    · exact .inr h.1
  refine ⟨⟨ms, md, vc, rc, Sf, ⟨hcl, hm.seen.of_block (fun b e => keep b (hm.seen.rlt b e) (hm.sepS b e).1), hm.dur.of_block (fun b e => keep b (hm.dur.rlt b e) (hm.sepD b e).1), hm.chg.of_block hg.size (fun b e => keep b (hm.chg.rlt b e) (hm.sepC b e)), fun G hG => (hm.files G hG).frame hg.size (fun x hx => keep x ((hm.files G hG).live x hx) (hm.sepF G hG x hx).1), hm.sepS, hm.sepD, hm.sepC, hm.sepF, hm.sepFF⟩, fun x hx => hE x (hS1 x hx), fun G x hG hx => hE x (hS2 G x hG hx), fun x hx => ?_⟩, hc.grown hg (fun g e => by simp at e; subst e; exact hdS)⟩
  rcases hx with hx | hx
  · have := hS3 x (.inl hx); omega
  · exact hx.2
theorem fuseOf {S : Nat → Prop} {w w1 : World} {d : Nat} {k : Dk} (h : St S w d k w1) (n : Int) (hq1 : -9223372036854775808 ≤ n) (hq2 : n ≤ 9223372036854775807) : Calls Try.prog 31 #[.pointer (some ⟨d, 0, none⟩), .int .i64 n] w1 fun e w' => e = .returned (.tuple #[]) ∧ St S w d (fuseK k n) w' := by
  have HS : Hid (St S w d k w1) := h
  have HW : Hid (∀ b, b = decide (0 ≤ n) → St S w d (k.fuses n) ((w1.setCell ⟨d, 6, none⟩ (.bool b)).setCell ⟨d, 7, none⟩ (.int .i64 n))) := fun b hb => fuseSt h n b hb
  obtain ⟨ms, md, vc, rc, Sf, hm⟩ := h.at
  obtain ⟨⟨_, _, _, _, _, _, c6, c7, c8⟩, ⟨_, _, _, _, _, _, z6, z7, z8⟩⟩ := dcells hm.cells
  clear hm h
  cases hb : k.dead with
  | true =>
    have HE : Hid (fuseK k n = k) := by unfold Hid fuseK; rw [hb]; rfl
    rw [HE.out]
    rw [hb] at c8
    clear hb
    go_enter Try.func31, Try.ntmps31
    go_wp2
    (try simp only [Exit.inBlock, Exit.then])
    refine bodyPost_ret (results_none rfl _ _ _) rfl ?_
    exact ⟨rfl, HS.out⟩
  | false =>
    have HE : Hid (fuseK k n = k.fuses n) := by unfold Hid fuseK; rw [hb]; rfl
    rw [HE.out]
    rw [hb] at c8
    clear hb
    go_enter Try.func31, Try.ntmps31
    go_wp2
    go_end0
    exact ⟨rfl, HW.out _ (by simp)⟩
end Go.Proofs.Ytadflolbgcdncaa

/-! Any changing step, and what it keeps; the bytes of an image. -/
namespace Go.Proofs.Ytadflolbgcdncaa
open Go.RowKit Go.Maps Plain
set_option linter.unusedVariables false
set_option linter.unusedSimpArgs false

theorem changeAll {W w : World} {d n : Nat} {k : Dk} (kd : Int) (nm to : ByteArray) (at' m : Int) (vb vp : Value) (l : List Nat) (hk1 : 1 ≤ kd) (hk7 : kd ≤ 7) (h : Dsk W d k w) (hs : nm.size ≤ maxLen) (ht : to.size ≤ maxLen) (hm : I64 m) (hb : BytesAt W vb l) (hl : l.length ≤ 140737488351232) (hk : k.Dok n) (hu : k.Uok) (hn : n ≤ 4398046511103) :
    Calls Try.prog 23 #[.pointer (some ⟨d, 0, none⟩), .agg #[.int .i64 kd, .string nm, .string to, .int .i64 at', .int .i64 m, vb, vp]] w (ChPost W d (chK k kd nm to m l) w) := by
  have : kd = 1 ∨ kd = 2 ∨ kd = 3 ∨ kd = 4 ∨ kd = 5 ∨ kd = 6 ∨ kd = 7 := by omega
  rcases this with rfl | rfl | rfl | rfl | rfl | rfl | rfl
  · exact changeCreate nm to at' m vb vp h hs hk hn
  · exact changeAppend nm to at' m vb vp l h hs (hb.later h.1) (fun w' hw' => hb.later hw') hl hk hu hn
  · exact changeTrunc nm to at' m vb vp h hs hm hk hu hn
  · exact changeSync nm to at' m vb vp h hs hk hn
  · exact changeSyncDir nm to at' m vb vp h hk hn
  · exact changeRename nm to at' m vb vp h hs ht hk hu hn
  · exact changeRemove nm to at' m vb vp h hs hk hu hn
theorem chK_dok {k : Dk} {n G : Nat} {kd m : Int} {nm to : ByteArray} {l : List Nat} (h : k.Dok n) (hu : k.Uok) (hs : nm.size ≤ maxLen) (ht : to.size ≤ maxLen) (hn : n ≤ 4398046511102) : (chK k kd nm to m l G).2.Dok (n + 1) := by
  unfold chK
  split
  · exact create_dok h hs hn
  · split
    · exact append_dok h hu hn
    · split
      · exact trunc_dok h hn
      · split
        · exact sync_dok h
        · split
          · exact syncDir_dok h
          · split
            · exact rename_dok h hs ht hn
            · exact remove_dok h hs hn
theorem chK_sum {k : Dk} {G : Nat} {kd m : Int} {nm to : ByteArray} {l : List Nat} (h : k.Sum) (hl : ∀ p ∈ k.L, k.live p.2) (hG : ¬ k.live G) : (chK k kd nm to m l G).2.Sum := by
  unfold chK
  split
  · exact create_sum h hl hG
  · split
    · exact append_sum h
    · split
      · exact trunc_sum h
      · split
        · exact sync_sum h
        · split
          · exact syncDir_sum h
          · split
            · exact rename_sum h
            · exact remove_sum h
/-- A disk whose power is on, and stays on. -/
structure Dk.On (k : Dk) : Prop where
  dead : k.dead = false
  fused : k.fused = false
theorem Dk.On.can {k : Dk} (h : k.On) : k.can = true := by unfold Dk.can spd; rw [h.fused]; rfl
theorem Dk.On.spent {k : Dk} (h : k.On) : k.spent.dead = false ∧ k.spent.fused = false := by
  refine ⟨?_, h.fused⟩
  show (spd k.ops k.fused k.left k.dead).2.2.2 = false
  unfold spd
  rw [h.fused, h.dead]; rfl
theorem Dk.On.chK {k : Dk} {G : Nat} {kd m : Int} {nm to : ByteArray} {l : List Nat} (h : k.On) : (chK k kd nm to m l G).2.On ∧ (Go.Proofs.Ytadflolbgcdncaa.chK k kd nm to m l G).2.quota = k.quota := by
  have h1 := h.spent.1
  have h2 := h.spent.2
  unfold Go.Proofs.Ytadflolbgcdncaa.chK createK appendK truncK syncK syncDirK renameK removeK
  repeat' split
  all_goals exact ⟨⟨by first | exact h.dead | exact h1, by first | exact h.fused | exact h2⟩, rfl⟩

/-- No other operation than an append is refused for want of room, or makes more of what is used. -/
theorem sizeK_nonneg (k : Dk) (s : ByteArray) : (0 : Int) ≤ (sizeK k s : Int) := Int.natCast_nonneg _
theorem fnd_ne33 (dead : Bool) (L : Dir) (s : ByteArray) : (fnd dead L s).2 ≠ 33 := by
  unfold fnd
  repeat' split
  all_goals simp
theorem rdy_ne33 (dead : Bool) (ns : List ByteArray) : rdy dead ns ≠ 33 := by
  unfold rdy
  repeat' split
  all_goals simp
theorem chK_less {k : Dk} {G : Nat} {kd m : Int} {nm to : ByteArray} {l : List Nat} (hne : kd ≠ 2) : (chK k kd nm to m l G).1 ≠ 33 ∧ (chK k kd nm to m l G).2.used ≤ k.used := by
  have h1 := fnd_ne33 k.dead k.L nm
  have h2 := rdy_ne33 k.dead [nm]
  have h3 := rdy_ne33 k.dead [nm, to]
  have h4 := sizeK_nonneg k nm
  have h5 := sizeK_nonneg k to
  unfold chK
  rw [if_neg hne]
  split
  · unfold createK
    repeat' split
    all_goals exact ⟨by first | exact h2 | simp, Int.le_refl _⟩
  · split
    · unfold truncK
      split
      · split
        · split
          · exact ⟨by simp, Int.le_refl _⟩
          · split
            · refine ⟨by simp, ?_⟩
              show k.used - _ ≤ k.used
              omega
            · exact ⟨by simp, Int.le_refl _⟩
        · exact ⟨by simp, Int.le_refl _⟩
      · exact ⟨h1, Int.le_refl _⟩
    · split
      · unfold syncK
        repeat' split
        all_goals exact ⟨by first | exact h1 | simp, Int.le_refl _⟩
      · split
        · unfold syncDirK
          repeat' split
          all_goals exact ⟨by simp, Int.le_refl _⟩
        · split
          · unfold renameK
            repeat' split
            all_goals first
              | exact ⟨by first | exact h1 | exact h3 | simp, Int.le_refl _⟩
              | (refine ⟨by simp, ?_⟩; show k.used - _ ≤ k.used; omega)
          · unfold removeK
            repeat' split
            all_goals first
              | exact ⟨by first | exact h1 | simp, Int.le_refl _⟩
              | (refine ⟨by simp, ?_⟩; show k.used - _ ≤ k.used; omega)
/-- What an append does. -/
theorem append_refused {k : Dk} {s : ByteArray} {b : List Nat} (h : (szK k s).2 ≠ 0) : appendK k s b = ((szK k s).2, k) := by
  unfold szK at h ⊢
  by_cases h0 : (fnd k.dead k.L s).2 = 0
  · rw [if_pos h0] at h; exact absurd rfl h
  · rw [if_neg h0] at h ⊢
    unfold appendK
    rw [if_neg h0]
theorem append_over {k : Dk} {s : ByteArray} {b : List Nat} (h : (szK k s).2 = 0) (hq : 0 < b.length ∧ k.quota - k.used < b.length) : appendK k s b = (33, k) := by
  have h0 : (fnd k.dead k.L s).2 = 0 := by
    unfold szK at h
    by_cases h0 : (fnd k.dead k.L s).2 = 0
    · exact h0
    · rw [if_neg h0] at h; exact absurd h h0
  unfold appendK
  rw [if_pos h0, if_pos hq]
theorem append_done {k : Dk} {s : ByteArray} {b : List Nat} (ho : k.On) (h : (szK k s).2 = 0) (hq : ¬ (0 < b.length ∧ k.quota - k.used < b.length)) :
    (appendK k s b).1 = 0 ∧ (szK (appendK k s b).2 s).2 = 0 ∧ (szK (appendK k s b).2 s).1 = (szK k s).1 + b.length ∧ (appendK k s b).2.used = k.used + b.length := by
  have h0 : (fnd k.dead k.L s).2 = 0 := by
    unfold szK at h
    by_cases h0 : (fnd k.dead k.L s).2 = 0
    · exact h0
    · rw [if_neg h0] at h; exact absurd h h0
  obtain ⟨G, hG, hf⟩ := fnd_ok h0
  have e : appendK k s b = (0, (k.spent.setFile G ((k.file G).add b)).uses (k.used + b.length)) := by
    unfold appendK
    rw [if_pos h0, if_neg hq, hG]
    simp only [ho.can, if_true]
  have hd : ((k.spent.setFile G ((k.file G).add b)).uses (k.used + b.length)).dead = k.dead := by
    show k.spent.dead = k.dead
    rw [ho.spent.1, ho.dead]
  have hL : ((k.spent.setFile G ((k.file G).add b)).uses (k.used + b.length)).L = k.L := rfl
  rw [e]
  unfold szK
  rw [if_pos h0, hd, hL, if_pos h0]
  refine ⟨rfl, rfl, ?_, rfl⟩
  unfold sizeK
  rw [hL, hG]
  show (upd k.file G ((k.file G).add b) G).seen.length = (k.file G).seen.length + b.length
  rw [upd_same]
  simp [Fl.add]

/-- All bytes of an image. -/
def imT (im : List (Nm × List Nat)) : Nat := (im.map fun p => p.2.length).sum
theorem imT_take (im : List (Nm × List Nat)) (j : Nat) (p : Nm × List Nat) (h : im[j]? = some p) : imT (im.take (j + 1)) = imT (im.take j) + p.2.length := by
  obtain ⟨hj, e⟩ := List.getElem?_eq_some_iff.mp h
  unfold imT
  rw [List.take_succ_eq_append_getElem hj, e]
  simp
theorem imT_le (im : List (Nm × List Nat)) (j : Nat) : imT (im.take j) ≤ imT im := by
  have : imT im = imT (im.take j) + imT (im.drop j) := by
    unfold imT
    rw [← List.sum_append, ← List.map_append, List.take_append_drop]
  omega
theorem imK_map (k : Dk) (ks : List Nm) : imgL k.L (fun (_ : Unit) G => (k.file G).seen) (fun _ _ => ()) () ks = ks.map fun n => (n, (k.file (fileOf k.L n)).seen) := by
  induction ks with
  | nil => rfl
  | cons x r ih => simp only [imgL, ih, List.map_cons]
theorem imK_total {k : Dk} (h : (k.L.map (·.1)).Nodup) : imT (imK k) = tT k.len k.L := by
  unfold imK imT
  rw [imK_map, List.map_map]
  have hp : (nms k.L).Perm (k.L.map (·.1)) := srt_perm _
  rw [(hp.map _).sum_nat, List.map_map]
  unfold tT
  congr 1
  apply List.map_congr_left
  intro p hp
  show (k.file (fileOf k.L p.1)).seen.length = (k.file p.2).seen.length
  unfold fileOf
  rw [look_of_mem h hp]
  rfl

set_option maxHeartbeats 1000000 in
theorem totalOf (w : World) (a : Option Addr) (l c : Nat) (im : List (Nm × List Nat)) (base : Nat) (h : ImgAt w (.slice a l c) im base) (hl : im.length ≤ 2199023255552) (ht : imT im ≤ 4611686018427387904) :
    Calls Try.prog 24 #[.slice a l c] w fun e w' => e = .returned (.int .i64 (imT im : Int)) ∧ w' = w := by
  obtain ⟨ts, r, blk, hm⟩ := h
  have hll := hm.len
  have HM : Hid (ImgM w (.slice a l c) im base ts r blk) := hm
  obtain ⟨a', c', e, hc1, hc2⟩ := hm.row.shape
  simp only [Value.slice.injEq] at e
  obtain ⟨rfl, rfl, rfl⟩ := e
  unfold maxLen at hc1
  clear hm
  rw [hll] at *
  go_enter Try.func24, Try.ntmps24
  go_wp2
  go_loopg [3, 4] im.length (fun gk s3 s4 wx => ∃ (j : Nat), j + gk = im.length ∧ s4 = .int .i64 j ∧ s3 = .int .i64 (imT (im.take j) : Int) ∧ wx = w)
  case atStart => exact ⟨0, by omega, rfl, rfl, rfl⟩
  case round =>
    obtain ⟨j, hj, rfl, rfl, rfl⟩ := hrel
    cases gk with
    | zero =>
      obtain rfl : j = im.length := by omega
      rw [List.take_length]
      go_wp2
      go_ret
      exact ⟨rfl, rfl⟩
    | succ gk1 =>
      have hjl : j < im.length := by omega
      obtain ⟨p, hp⟩ : ∃ p, im[j]? = some p := ⟨_, List.getElem?_eq_getElem hjl⟩
      have hT := imT_take im j p hp
      have hT2 := imT_le im (j + 1)
      obtain ⟨dv, e1, ho⟩ := HM.out.one j p hp
      obtain ⟨ad, nd, cd, rfl⟩ := isSliceO ho
      have hnd : p.2.length = nd := own_len ho
      obtain ⟨q1, q2⟩ := own_cap ho
      have hcell : ∃ g, a = some ⟨g, 0, none⟩ ∧ wr.cell? ⟨g, j * 2 + 1, none⟩ = some (.slice ad nd cd) := by
        have hrow := HM.out.row
        have hrow' := hrow
        rcases hrow with ⟨_, e, _⟩ | ⟨g, cap, hr, e, _⟩
        · rw [e] at e1; simp at e1
        · simp only [Value.slice.injEq] at e
          rw [hr] at hrow'
          have := (hrow'.at (j := j) (by rw [HM.out.len]; exact hjl)).2
          have e2 : ts.getD j Fi.none = ⟨str p.1, .slice ad nd cd⟩ := by simp [List.getD_eq_getElem?_getD, e1]
          rw [e2] at this
          exact ⟨g, e.1, this⟩
      obtain ⟨g, rfl, hcell⟩ := hcell
      have HNX : Hid ((imT (im.take (j + 1)) : Int) = (imT (im.take j) : Int) + (nd : Int)) := by unfold Hid; omega
      clear ho e1 hp
      generalize imT (im.take j) = t at *
      go_wp2
      go_roundg gk1
      case measure => omega
      case rel => exact ⟨j + 1, by omega, by go_num, by rw [HNX.out], rfl⟩
end Go.Proofs.Ytadflolbgcdncaa

/-! A disk that has begun. -/
namespace Go.Proofs.Ytadflolbgcdncaa
open Go.RowKit Go.Maps Plain
set_option linter.unusedVariables false
set_option linter.unusedSimpArgs false

def nmF : ByteArray := ⟨#[102, 105, 114, 115, 116]⟩
def kF : Nm := [102, 105, 114, 115, 116]
theorem szF : nmF.size ≤ maxLen := by unfold maxLen; decide
def e1 (q : Int) (G : Nat) : Dk := ⟨[(kF, G)], [], [DC.mk kF G], 0, q, 1, false, 0, false, upd F0 G ⟨[], [], []⟩, lv1 G⟩
def e2 (q : Int) (G : Nat) : Dk := ⟨[(kF, G)], [], [DC.mk kF G], 1, q, 2, false, 0, false, upd (upd F0 G ⟨[], [], []⟩) G ⟨[7], [], [FC.add [7]]⟩, lv1 G⟩
theorem x1 (q : Int) (G : Nat) : createK (Dk.fresh q) nmF G = (0, e1 q G) := by rfl
theorem x2 (q : Int) (G : Nat) (h : 1 ≤ q) : appendK (e1 q G) nmF [7] = (0, e2 q G) := by
  have a1 : (fnd (e1 q G).dead (e1 q G).L nmF).2 = 0 := by rfl
  have a2 : look (e1 q G).L nmF.data.toList = some G := by rfl
  have a3 : (e1 q G).file G = ⟨[], [], []⟩ := upd_same _ _ _
  have a4 : (e1 q G).can = true := by rfl
  unfold appendK
  rw [if_pos a1, if_neg (by show ¬ (0 < 1 ∧ q - 0 < ((1 : Nat) : Int)); omega), a2]
  simp only [a3, a4, if_true, Fl.add]
  rfl
theorem x3 (G : Nat) : appendK (e1 0 G) nmF [7] = (33, e1 0 G) := by
  have a1 : (fnd (e1 0 G).dead (e1 0 G).L nmF).2 = 0 := by rfl
  unfold appendK
  rw [if_pos a1, if_pos (by show (0 < 1 ∧ (0 : Int) - 0 < ((1 : Nat) : Int)); omega)]
/-- The disk that has begun. -/
def bg (q : Int) (G : Nat) : Dk := if q = 0 then e1 0 G else e2 q G
theorem e1_dok (q : Int) (G : Nat) : (e1 q G).Dok 1 := by have := create_dok (G := G) (fresh_dok q) szF (by omega); rwa [x1] at this
theorem e1_sum (q : Int) (G : Nat) (h0 : 0 ≤ q) (h1 : q ≤ 1073741824) : (e1 q G).Sum := ⟨by simp [e1], by simp [e1], by
  show (0 : Int) = ((((upd F0 G ⟨[], [], []⟩ G).seen.length + 0 : Nat)) : Int)
  rw [upd_same]; rfl, ⟨h0, h1⟩, by show (0 : Int) ≤ 1073741824; omega⟩
theorem e2_sum (q : Int) (G : Nat) (h0 : 0 ≤ q) (h1 : q ≤ 1073741824) : (e2 q G).Sum := ⟨by simp [e2], by simp [e2], by
  show (1 : Int) = ((((upd (upd F0 G ⟨[], [], []⟩) G ⟨[7], [], [FC.add [7]]⟩ G).seen.length + 0 : Nat)) : Int)
  rw [upd_same]; rfl, ⟨h0, h1⟩, by show (1 : Int) ≤ 1073741824; omega⟩
theorem e2_dok (q : Int) (G : Nat) (h0 : 1 ≤ q) (h1 : q ≤ 1073741824) : (e2 q G).Dok 2 := by have := append_dok (s := nmF) (b := [7]) (e1_dok q G) (e1_sum q G (by omega) h1).uok (by omega); rwa [x2 q G h0] at this
theorem Dk.Ok.mono {k : Dk} {n m : Nat} (h : k.Ok n) (hm : n ≤ m) : k.Ok m := ⟨h.refs, fun G hG => ⟨(h.fok G hG).1, Nat.le_trans (h.fok G hG).2 hm⟩, ⟨h.ops.1, by have := h.ops.2; omega⟩, h.fuse⟩
theorem Dk.Dok.mono {k : Dk} {n m : Nat} (h : k.Dok n) (hm : n ≤ m) : k.Dok m := ⟨h.ok.mono hm, h.dir, h.eq, Nat.le_trans h.cnt hm, h.few⟩
theorem bg_dok (q : Int) (G : Nat) (h0 : 0 ≤ q) (h1 : q ≤ 1073741824) : (bg q G).Dok 2 := by
  unfold bg
  split
  · exact (e1_dok 0 G).mono (by omega)
  · exact e2_dok q G (by omega) h1
theorem bg_sum (q : Int) (G : Nat) (h0 : 0 ≤ q) (h1 : q ≤ 1073741824) : (bg q G).Sum := by
  unfold bg
  split
  · exact e1_sum 0 G (by omega) (by omega)
  · exact e2_sum q G h0 h1
theorem bg_on (q : Int) (G : Nat) : (bg q G).On := by
  unfold bg
  split <;> exact ⟨rfl, rfl⟩

theorem one7 (w : World) : BytesAt (w.alloc (.cells #[.int .u8 7] 5)) (.slice (some ⟨w.heap.size, 0, none⟩) 1 1) [7] := by
  refine ⟨_, 1, rfl, by simp, by unfold maxLen; omega, by simp, fun _ => ⟨w.heap.size, 0, rfl, fun j hj => ?_⟩⟩
  have : j = 0 := by simp at hj; omega
  subst this
  rw [World.cell?_alloc_at _ _ _ _ rfl]
  rfl
theorem append7 {W w1 : World} {d n : Nat} {k : Dk} (h : Dsk W d k w1) (hk : k.Dok n) (hu : k.Uok) (hn : n ≤ 4398046511103) : Calls Try.prog 11 #[.pointer (some ⟨d, 0, none⟩), .string ⟨#[102, 105, 114, 115, 116]⟩, .slice (some ⟨w1.heap.size, 0, none⟩) 1 1] (w1.alloc (.cells #[.int .u8 7] 5)) (DPost W d (appendK k nmF [7])) := by
  obtain ⟨h1, S, h2, h3⟩ := h
  have hb : Below w1.heap.size w1 (w1.alloc (.cells #[.int .u8 7] 5)) := (Below.refl _ _).alloc (Nat.le_refl _) _
  have hS := h2.rng
  refine (appendOf d k n S nmF szF _ [7] _ (h2.later hb) hk.ok hu hn (fun w' hc => ?_)).mono ?_
  · obtain ⟨a, cap, e, b1, b2, b3, b4⟩ := one7 w1
    refine ⟨a, cap, e, b1, b2, b3, fun hne => ?_⟩
    obtain ⟨b, off, e2, b5⟩ := b4 hne
    refine ⟨b, off, e2, fun j hj => ?_⟩
    have hb' : b = w1.heap.size := by
      rw [e2] at e
      simp only [Value.slice.injEq, Option.some.injEq, Addr.mk.injEq] at e
      exact e.1.1.symm
    rw [World.cell?_of_block (w := w1.alloc (.cells #[.int .u8 7] 5)) (a := ⟨b, off + j, none⟩) (hc.block b (by rw [hb']; simp) (fun hs => by have := hS b hs; omega))]
    exact b5 j hj
  · rintro e w2 hp
    exact Dsk.op (h1.trans (hb.mono h1.size)) h3 hp
theorem newBad (q : Int) (hq1 : I64 q) (hq : qB q = false) (w : World) : Calls Try.prog 9 #[.int .i64 q] w fun e w' => e = .returned (.tuple #[.pointer none, .int .i64 3]) ∧ w' = w := by
  have HL : Hid (Calls Try.prog 29 #[.slice none 0 0, .int .i64 q] w fun e w' => e = .returned (.tuple #[.pointer none, .int .i64 3]) ∧ w' = w) := by
    refine (loadNil q hq1.1 hq1.2 w).mono ?_
    rintro e w' (⟨_, rfl, rfl⟩ | ⟨h, _⟩)
    · exact ⟨rfl, rfl⟩
    · rw [hq] at h; simp at h
  go_enter Try.func9, Try.ntmps9
  go_wp2_with fail
  refine HL.out.mono ?_
  rintro e w1 ⟨rfl, rfl⟩
  go_wp2
  go_ret2
  exact ⟨rfl, rfl⟩

def BgPost (q : Int) (w : World) (e : Ending) (w' : World) : Prop := (qB q = false ∧ e = .returned (.tuple #[.pointer none, .bool true]) ∧ Below w.heap.size w w') ∨
  (∃ d G, e = .returned (.tuple #[.pointer (some ⟨d, 0, none⟩), .bool true]) ∧ Dsk w d (bg q G) w' ∧ 0 ≤ q ∧ q ≤ 1073741824)

theorem rd1 {W w1 : World} {d n G : Nat} {q : Int} (h : Dsk W d (e1 q G) w1) : Calls Try.prog 17 #[.pointer (some ⟨d, 0, none⟩), .string ⟨#[102, 105, 114, 115, 116]⟩, .int .i64 0, .int .i64 9] w1 fun e w2 => ∃ a c, e = .returned (.tuple #[.slice a 0 c, .int .i64 0]) ∧ c ≤ 2 ^ 63 - 1 ∧ Dsk W d (e1 q G) w2 := by
  refine (readD (s := nmF) h szF (e1_dok q G) 0 9 (by omega) rfl (Nat.zero_le _)).mono ?_
  rintro e w2 ⟨a, l, c, r, rfl, hw, hb⟩
  have a1 : rdB (e1 q G) nmF 0 9 = [] := by
    show ((upd F0 G ⟨[], [], []⟩ G).seen.drop 0).take 9 = []
    rw [upd_same]; rfl
  rw [a1] at hw
  have hl := own_len hw
  obtain ⟨q1, q2⟩ := own_cap hw
  simp at hl
  subst hl
  exact ⟨a, c, rfl, q2, h.later hb⟩
theorem rd2 {W w1 : World} {d n G : Nat} {q : Int} (h0 : 1 ≤ q) (h1 : q ≤ 1073741824) (h : Dsk W d (e2 q G) w1) : Calls Try.prog 17 #[.pointer (some ⟨d, 0, none⟩), .string ⟨#[102, 105, 114, 115, 116]⟩, .int .i64 0, .int .i64 9] w1 fun e w2 => ∃ b off c, e = .returned (.tuple #[.slice (some ⟨b, off, none⟩) 1 c, .int .i64 0]) ∧ w2.cell? ⟨b, off, none⟩ = some (.int .u8 7) ∧ 1 ≤ c ∧ c ≤ 2 ^ 63 - 1 ∧ Dsk W d (e2 q G) w2 := by
  have hsz : sizeK (e2 q G) nmF = 1 := by
    show (upd (upd F0 G ⟨[], [], []⟩) G ⟨[7], [], [FC.add [7]]⟩ G).seen.length = 1
    rw [upd_same]; rfl
  refine (readD (s := nmF) h szF (e2_dok q G h0 h1) 0 9 (by omega) rfl (Nat.zero_le _)).mono ?_
  rintro e w2 ⟨a, l, c, r, rfl, hw, hb⟩
  have a1 : rdB (e2 q G) nmF 0 9 = [7] := by
    show ((upd (upd F0 G ⟨[], [], []⟩) G ⟨[7], [], [FC.add [7]]⟩ G).seen.drop 0).take 9 = [7]
    rw [upd_same]; rfl
  rw [a1] at hw
  have hl := own_len hw
  obtain ⟨q1, q2⟩ := own_cap hw
  have hl' : l = 1 := by simpa using hl.symm
  subst hl'
  obtain ⟨a', cap, e, _, _, _, hc⟩ := hw.bytes
  simp only [Value.slice.injEq] at e
  obtain ⟨rfl, _, rfl⟩ := e
  obtain ⟨b, off, rfl, hc2⟩ := hc (by simp)
  have h7 := hc2 0 (by simp)
  exact ⟨b, off, c, rfl, h7, q1, q2, h.later hb⟩

set_option maxHeartbeats 4000000 in
set_option maxRecDepth 1000000 in
theorem begunOf (q : Int) (hq : I64 q) (w : World) : Calls Try.prog 18 #[.int .i64 q] w (BgPost q w) := by
  obtain ⟨hq1, hq2⟩ := hq
  by_cases h0 : q < 0
  · have HN : Hid (Calls Try.prog 9 #[.int .i64 q] w fun e w' => e = .returned (.tuple #[.pointer none, .int .i64 3]) ∧ w' = w) := newBad q ⟨hq1, hq2⟩ (by simp [qB]; omega) w
    have HP : Hid (BgPost q w (.returned (.tuple #[.pointer none, .bool true])) w) := .inl ⟨by simp [qB]; omega, rfl, Below.refl _ _⟩
    go_enter Try.func18, Try.ntmps18
    go_wp2_with fail
    refine HN.out.mono ?_
    rintro e w1 ⟨rfl, rfl⟩
    go_wp2
    go_ret2
    exact HP.out
  · by_cases h1 : 1073741824 < q
    · have HN : Hid (Calls Try.prog 9 #[.int .i64 q] w fun e w' => e = .returned (.tuple #[.pointer none, .int .i64 3]) ∧ w' = w) := newBad q ⟨hq1, hq2⟩ (by simp [qB]; omega) w
      have HP : Hid (BgPost q w (.returned (.tuple #[.pointer none, .bool true])) w) := .inl ⟨by simp [qB]; omega, rfl, Below.refl _ _⟩
      go_enter Try.func18, Try.ntmps18
      go_wp2_with fail
      refine HN.out.mono ?_
      rintro e w1 ⟨rfl, rfl⟩
      go_wp2
      go_ret2
      exact HP.out
    · have hq0 : 0 ≤ q := by omega
      have hqm : q ≤ 1073741824 := by omega
      have HN : Hid (Calls Try.prog 9 #[.int .i64 q] w fun e w' => e = .returned (.tuple #[.pointer (some ⟨w.heap.size, 0, none⟩), .int .i64 0]) ∧ Dsk w w.heap.size (Dk.fresh q) w') := newOf q hq0 hqm w
      go_enter Try.func18, Try.ntmps18
      go_wp2_with fail
      refine HN.out.mono ?_
      rintro e w1 ⟨rfl, hd⟩
      have HC : Hid (Calls Try.prog 10 #[.pointer (some ⟨w.heap.size, 0, none⟩), .string ⟨#[102, 105, 114, 115, 116]⟩] w1 fun e w2 => ∃ G, e = .returned (.int .i64 0) ∧ Dsk w w.heap.size (e1 q G) w2) := by
        refine (createD (s := nmF) hd szF (fresh_dok q) (by omega)).mono ?_
        rintro e w2 ⟨G, _, rfl, h2⟩
        rw [x1] at h2 ⊢
        exact ⟨G, rfl, h2⟩
      clear hd
      go_wp2_with fail
      refine HC.out.mono ?_
      rintro e w2 ⟨G, rfl, hd⟩
      have HA : Hid (Calls Try.prog 11 #[.pointer (some ⟨w.heap.size, 0, none⟩), .string ⟨#[102, 105, 114, 115, 116]⟩, .slice (some ⟨w2.heap.size, 0, none⟩) 1 1] (w2.alloc (.cells #[.int .u8 7] 5)) (DPost w w.heap.size (appendK (e1 q G) nmF [7]))) := append7 hd (e1_dok q G) (e1_sum q G hq0 hqm).uok (by omega)
      clear hd HC HN
      by_cases hz : q = 0
      · subst hz
        rw [x3] at HA
        go_wp2_with fail
        refine HA.out.mono ?_
        rintro e w3 ⟨rfl, hd⟩
        have HR : Hid (Calls Try.prog 17 #[.pointer (some ⟨w.heap.size, 0, none⟩), .string ⟨#[102, 105, 114, 115, 116]⟩, .int .i64 0, .int .i64 9] w3 fun e w2 => ∃ a c, e = .returned (.tuple #[.slice a 0 c, .int .i64 0]) ∧ c ≤ 2 ^ 63 - 1 ∧ Dsk w w.heap.size (e1 0 G) w2) := rd1 (n := 0) hd
        clear hd HA
        go_wp2_with fail
        refine HR.out.mono ?_
        rintro e w4 ⟨a, c, rfl, hc, hd⟩
        have HP : Hid (BgPost 0 w (.returned (.tuple #[.pointer (some ⟨w.heap.size, 0, none⟩), .bool true])) w4) := .inr ⟨_, G, rfl, by rw [show bg 0 G = e1 0 G from rfl]; exact hd, by omega, by omega⟩
        clear hd HR
        go_wp2
        go_ret2
        exact HP.out
      · have hq1' : 1 ≤ q := by omega
        rw [x2 q G hq1'] at HA
        go_wp2_with fail
        refine HA.out.mono ?_
        rintro e w3 ⟨rfl, hd⟩
        have HR : Hid (Calls Try.prog 17 #[.pointer (some ⟨w.heap.size, 0, none⟩), .string ⟨#[102, 105, 114, 115, 116]⟩, .int .i64 0, .int .i64 9] w3 fun e w2 => ∃ b off c, e = .returned (.tuple #[.slice (some ⟨b, off, none⟩) 1 c, .int .i64 0]) ∧ w2.cell? ⟨b, off, none⟩ = some (.int .u8 7) ∧ 1 ≤ c ∧ c ≤ 2 ^ 63 - 1 ∧ Dsk w w.heap.size (e2 q G) w2) := rd2 (n := 0) hq1' hqm hd
        clear hd HA
        go_wp2_with fail
        refine HR.out.mono ?_
        rintro e w4 ⟨b, off, c, rfl, hcell, hc1, hc, hd⟩
        have HP : Hid (∀ w5, Below w4.heap.size w4 w5 → BgPost q w (.returned (.tuple #[.pointer (some ⟨w.heap.size, 0, none⟩), .bool true])) w5) := fun w5 hb => .inr ⟨_, G, rfl, by rw [show bg q G = e2 q G by unfold bg; rw [if_neg hz]]; exact hd.later hb, by omega, by omega⟩
        clear hd HR
        go_wp2
        go_quiet (fail)
        go_wp2
        go_ret2
        exact HP.out _ (below_drewN' _ _)
end Go.Proofs.Ytadflolbgcdncaa

/-! A script that came in; more operations on a disk in new memory. -/
namespace Go.Proofs.Ytadflolbgcdncaa
open Go.RowKit Go.Deep Go.ChangeShapes Go.WideShapes Go.ChangeAt Go.Maps Plain
set_option linter.unusedVariables false
set_option linter.unusedSimpArgs false
set_option linter.constructorNameAsVariable false

structure Sp where
  kd : Int
  nm : ByteArray
  to : ByteArray
  at' : Int
  n : Int
  vb : Value
  vp : Value
  data : List Nat
def Sp.none : Sp := ⟨0, ByteArray.empty, ByteArray.empty, 0, 0, .slice Option.none 0 0, .slice Option.none 0 0, []⟩
structure Sp.Ok (s : Sp) : Prop where
  kd : I64 s.kd
  n : I64 s.n
  nm : s.nm.size ≤ maxLen
  to : s.to.size ≤ maxLen
  data : s.data.length ≤ 140737488351232
  vp : ∃ a m c, s.vp = .slice a m c
structure SpAt (w : World) (b o : Nat) (s : Sp) : Prop where
  c0 : w.cell? ⟨b, o, none⟩ = some (.int .i64 s.kd)
  c1 : w.cell? ⟨b, o + 1, none⟩ = some (.string s.nm)
  c2 : w.cell? ⟨b, o + 2, none⟩ = some (.string s.to)
  c3 : w.cell? ⟨b, o + 3, none⟩ = some (.int .i64 s.at')
  c4 : w.cell? ⟨b, o + 4, none⟩ = some (.int .i64 s.n)
  c5 : w.cell? ⟨b, o + 5, none⟩ = some s.vb
  c6 : w.cell? ⟨b, o + 6, none⟩ = some s.vp
  row : BytesAt w s.vb s.data
theorem SpAt.later {w w' : World} {b o : Nat} {s : Sp} (h : SpAt w b o s) (hb : Below w.heap.size w w') : SpAt w' b o s :=
  ⟨by rw [hb.cell (cell_lt h.c0)]; exact h.c0, by rw [hb.cell (cell_lt h.c1)]; exact h.c1, by rw [hb.cell (cell_lt h.c2)]; exact h.c2, by rw [hb.cell (cell_lt h.c3)]; exact h.c3, by rw [hb.cell (cell_lt h.c4)]; exact h.c4, by rw [hb.cell (cell_lt h.c5)]; exact h.c5, by rw [hb.cell (cell_lt h.c6)]; exact h.c6, h.row.later hb⟩
/-- v is a slice of steps that reads as st. -/
def ScrAt (w : World) (v : Value) (st : List Sp) : Prop :=
  ∃ a cap, v = .slice a st.length cap ∧ st.length ≤ cap ∧ cap ≤ maxLen ∧ st.length ≤ 1400000000000 ∧ (∀ s ∈ st, s.Ok) ∧ (st ≠ [] → ∃ b off, a = some ⟨b, off, none⟩ ∧ ∀ j, j < st.length → SpAt w b (off + j * 7) (st.getD j Sp.none))

theorem cells_step : Try.prog.cellsOf 44 = 7 := by kernel_rfl
theorem cells_3 : Try.prog.cellsOf 3 = 1 := by kernel_rfl
theorem cells_9 : Try.prog.cellsOf 9 = 1 := by kernel_rfl
theorem cells_B : Try.prog.cellsOf 22 = 1 := by kernel_rfl
theorem cells_I : Try.prog.cellsOf 23 = 1 := by kernel_rfl
theorem cells_u8 : Try.prog.cellsOf 5 = 1 := by kernel_rfl
theorem bytes_step : Try.prog.bytesOf 44 = 104 := by kernel_rfl
theorem bytes_u8 : Try.prog.bytesOf 5 = 1 := by kernel_rfl

theorem weights_agg {H : Type} {P : Program} {t t' : TypeId} {fs : Array Field} {parts : List (DataW H)} {d : DataW H} {j : Nat} (hu : P.underlying t = some (.struct fs)) (ht : (fs.toList.map (·.type))[j]? = some t') (hd : parts[j]? = some d) : ∀ n ∈ d.weights P t', n ∈ (DataW.agg parts).weights P t := fun n hn => by
  simp only [DataW.weights, hu]
  exact DataW.weights_mem_each ht hd n hn
theorem weights_all {H : Type} {P : Program} {e : TypeId} : ∀ {ds : List (DataW H)} {d : DataW H}, d ∈ ds → ∀ n ∈ d.weights P e, n ∈ DataW.weightsAll P e ds
  | [], d, h, _, _ => by simp at h
  | x :: ds, d, h, n, hn => by
    simp only [DataW.weightsAll, List.mem_append]
    rcases List.mem_cons.mp h with rfl | h
    · exact .inl hn
    · exact .inr (weights_all h n hn)
theorem weights_slice {H : Type} {P : Program} {t e : TypeId} {el sp : List (DataW H)} (hu : P.underlying t = some (.slice e)) : (el.length + sp.length) * P.bytesOf e ∈ (DataW.slice el sp).weights P t := by simp [DataW.weights, hu]
theorem weights_elem {H : Type} {P : Program} {t e : TypeId} {el sp : List (DataW H)} (hu : P.underlying t = some (.slice e)) {d : DataW H} (hd : d ∈ el) : ∀ n ∈ d.weights P e, n ∈ (DataW.slice el sp).weights P t := fun n hn => by
  simp only [DataW.weights, hu, List.mem_cons, List.mem_append]
  exact .inr (.inl (weights_all hd n hn))
theorem wfI {z : Int} (h : (Lit.int .i64 z).wf = true) : I64 z := by
  have := bounds_i64 h
  unfold I64
  omega

set_option maxRecDepth 100000 in
theorem open_sp {H : Type} {enc : TypeId × Value → H} {W : World} {n : Nat} {a : Addr} {i : Nat} {x : DataW H × List MemPlace} {cs' : List Value} (h1 : W.cells? 0 (a.add (i * Try.prog.cellsOf 44)) (Try.prog.cellsOf 44) = some cs')
    (h2 : DataW.trod enc Try.prog W 0 (fun _ => true) true n 44 cs' = some x) (hsz : ∀ m ∈ x.1.weights Try.prog 44, m ≤ reachBytes) :
    ∃ s : Sp, s.Ok ∧ BytesAt W s.vb s.data ∧ W.cell? ((a.add (i * 7)).add 0) = some (.int .i64 s.kd) ∧ W.cell? ((a.add (i * 7)).add 1) = some (.string s.nm) ∧ W.cell? ((a.add (i * 7)).add 2) = some (.string s.to) ∧ W.cell? ((a.add (i * 7)).add 3) = some (.int .i64 s.at') ∧
      W.cell? ((a.add (i * 7)).add 4) = some (.int .i64 s.n) ∧ W.cell? ((a.add (i * 7)).add 5) = some s.vb ∧ W.cell? ((a.add (i * 7)).add 6) = some s.vp := by
  rw [cells_step] at h1
  obtain ⟨_, hlen0, hcell⟩ := World.cells?_some h1
  obtain ⟨xs, m, _, hx, hl, hlen, hf⟩ := DataW.trod_struct Try.underlying44 h2
  rw [cells_step] at hl
  have hlen : xs.length = 7 := hlen
  match cs', hl with
  | [v0, v1, v2, v3, v4, v5, v6], _ =>
    match xs, hlen with
    | [y0, y1, y2, y3, y4, y5, y6], _ =>
      have k0 : DataW.trod enc Try.prog W 0 (fun _ => true) true m 3 [v0] = some y0 := by simpa [cells_3] using hf 0 _ rfl
      have k1 : DataW.trod enc Try.prog W 0 (fun _ => true) true m 9 [v1] = some y1 := by simpa [cells_9] using hf 1 _ rfl
      have k2 : DataW.trod enc Try.prog W 0 (fun _ => true) true m 9 [v2] = some y2 := by simpa [cells_9] using hf 2 _ rfl
      have k3 : DataW.trod enc Try.prog W 0 (fun _ => true) true m 3 [v3] = some y3 := by simpa [cells_3] using hf 3 _ rfl
      have k4 : DataW.trod enc Try.prog W 0 (fun _ => true) true m 3 [v4] = some y4 := by simpa [cells_3] using hf 4 _ rfl
      have k5 : DataW.trod enc Try.prog W 0 (fun _ => true) true m 22 [v5] = some y5 := by simpa [cells_B] using hf 5 _ rfl
      have k6 : DataW.trod enc Try.prog W 0 (fun _ => true) true m 23 [v6] = some y6 := by simpa [cells_I] using hf 6 _ rfl
      have hv6 : ∃ a m c, v6 = .slice a m c := by
        rcases open_ints Try.underlying23 Try.underlying3 cells_3 k6 with ⟨hcs, _⟩ | ⟨x0, l, c, zs, hcs, _⟩
        · simp at hcs; exact ⟨_, _, _, hcs⟩
        · simp at hcs; exact ⟨_, _, _, hcs⟩
      obtain ⟨n0, a0, _, w0⟩ := DataW.trod_int Try.underlying3 k0
      obtain ⟨s1, a1, _, w1⟩ := DataW.trod_string Try.underlying9 k1
      obtain ⟨s2, a2, _, w2⟩ := DataW.trod_string Try.underlying9 k2
      obtain ⟨n3, a3, _, w3⟩ := DataW.trod_int Try.underlying3 k3
      obtain ⟨n4, a4, _, w4⟩ := DataW.trod_int Try.underlying3 k4
      simp only [List.cons.injEq, and_true] at a0 a1 a2 a3 a4
      subst a0 a1 a2 a3 a4
      obtain ⟨l, hB, hll⟩ : ∃ l : List Nat, BytesAt W v5 l ∧ l.length ≤ 140737488351232 := by
        rcases open_ints Try.underlying22 Try.underlying5 cells_u8 k5 with ⟨hcs, _⟩ | ⟨x0, l, c, zs, hcs, _, hl0, hm0, hz, hx0, hcell0, hwz⟩
        · simp at hcs
          subst hcs
          exact ⟨[], BytesAt.nil W, by simp⟩
        · simp at hcs
          subst hcs
          simp only [if_true] at hz
          obtain ⟨l', g1, g2⟩ := bytes_of_row (w := W) (a := some x0) (len := l) (cap := c) (zs := zs) (.inr ⟨x0, rfl, hl0, hm0, hz, hcell0, hwz⟩)
          refine ⟨l', g2, ?_⟩
          have hw : ((lits (H := H) .u8 (zs.take l)).length + (lits (H := H) .u8 (zs.drop l)).length) * Try.prog.bytesOf 5 ≤ reachBytes := by
            refine hsz _ ?_
            rw [hx]
            refine weights_agg (t' := 22) (d := y5.1) (j := 5) Try.underlying44 rfl rfl _ ?_
            rw [hx0]
            exact weights_slice Try.underlying22
          rw [bytes_u8] at hw
          simp only [lits, List.length_map, List.length_take, List.length_drop, reachBytes] at hw
          omega
      exact ⟨⟨n0, s1, s2, n3, n4, v5, v6, l⟩, ⟨wfI w0, wfI w4, w1, w2, hll, hv6⟩, hB, by simpa using hcell 0 (by omega), by simpa using hcell 1 (by omega), by simpa using hcell 2 (by omega), by simpa using hcell 3 (by omega), by simpa using hcell 4 (by omega), by simpa using hcell 5 (by omega), by simpa using hcell 6 (by omega)⟩

theorem open_script {H : Type} {enc : TypeId × Value → H} {W : World} {fuel : Nat} {v : Value} {x : DataW H × List MemPlace} (h : DataW.trod enc Try.prog W 0 (fun _ => true) true fuel 40 [v] = some x)
    (hsz : ∀ m ∈ x.1.weights Try.prog 40, m ≤ reachBytes) : ∃ st : List Sp, ScrAt W v st := by
  rcases open_slice Try.underlying40 h with ⟨hcs, hx⟩ | ⟨a, len, cap, m, n, D, Pl, hcs, hb, hl, hm, hmm, hx, hel⟩
  · simp at hcs
    subst hcs
    exact ⟨[], none, 0, rfl, by simp, by simp, by simp, by simp, by simp⟩
  · simp at hcs
    subst hcs
    simp only [if_true] at hmm
    subst hmm
    have each : ∀ i, i < len → ∃ s : Sp, s.Ok ∧ BytesAt W s.vb s.data ∧ W.cell? ((a.add (i * 7)).add 0) = some (.int .i64 s.kd) ∧ W.cell? ((a.add (i * 7)).add 1) = some (.string s.nm) ∧ W.cell? ((a.add (i * 7)).add 2) = some (.string s.to) ∧ W.cell? ((a.add (i * 7)).add 3) = some (.int .i64 s.at') ∧
      W.cell? ((a.add (i * 7)).add 4) = some (.int .i64 s.n) ∧ W.cell? ((a.add (i * 7)).add 5) = some s.vb ∧ W.cell? ((a.add (i * 7)).add 6) = some s.vp := by
      intro i hi
      obtain ⟨cs', h1, h2⟩ := hel i (by omega)
      refine open_sp h1 h2 (fun q hq => hsz q ?_)
      rw [hx]
      exact weights_elem Try.underlying40 (List.mem_map.mpr ⟨i, List.mem_range.mpr hi, rfl⟩) q hq
    have iT : Inhabited Sp := ⟨Sp.none⟩
    obtain ⟨q, hq⟩ := choose_lt each
    have hbig : len ≤ 1400000000000 := by
      have := hsz _ (by rw [hx]; exact weights_slice Try.underlying40)
      rw [bytes_step] at this
      simp [reachBytes] at this
      omega
    have hlenq : ((List.range len).map q).length = len := by simp
    refine ⟨(List.range len).map q, some a, m, by rw [hlenq], by rw [hlenq]; exact hl, hm, by rw [hlenq]; exact hbig, ?_, ?_⟩
    · intro t ht
      obtain ⟨i, hi, rfl⟩ := List.mem_map.mp ht
      exact (hq i (List.mem_range.mp hi)).1
    · intro hne
      have hlen : 0 < len := by
        rcases Nat.eq_zero_or_pos len with rfl | h
        · simp at hne
        · exact h
      obtain ⟨b, off, spot⟩ := a
      have hspot : spot = none := by
        have := World.cell?_spot (hq 0 hlen).2.2.1
        simpa [Addr.add] using this
      subst hspot
      refine ⟨b, off, rfl, fun k hk => ?_⟩
      have hk' : k < len := by simpa using hk
      obtain ⟨_, hB, c0, c1, c2, c3, c4, c5, c6⟩ := hq k hk'
      rw [WideShapes.add_plain, WideShapes.add_plain] at c0 c1 c2 c3 c4 c5 c6
      have e : ((List.range len).map q).getD k Sp.none = q k := by simp [hk']
      rw [e]
      exact ⟨c0, c1, c2, c3, c4, c5, c6, hB⟩

theorem Dsk.ofSt {W w1 w2 : World} {d : Nat} {k : Dk} {S : Nat → Prop} (h1 : Below W.heap.size W w1) (h3 : ∀ x, S x → W.heap.size ≤ x) (h : St S w1 d k w2) : Dsk W d k w2 := by
  refine ⟨h1.trans (h.2.below h1.size h3), _, h.1, fun x hx => ?_⟩
  rcases hx with hx | hx
  · exact h3 x hx
  · have := h1.size; omega
theorem sizeD {W w1 : World} {d n : Nat} {k : Dk} {s : ByteArray} (h : Dsk W d k w1) (hs : s.size ≤ maxLen) (hk : k.Dok n) : Calls Try.prog 22 #[.pointer (some ⟨d, 0, none⟩), .string s] w1 fun e w2 => e = .returned (.tuple #[.int .i64 ((szK k s).1 : Int), .int .i64 (szK k s).2]) ∧ Dsk W d k w2 := by
  obtain ⟨h1, S, h2, h3⟩ := h
  refine (sizeOf (St.start h2) hk.ok s hs).mono ?_
  rintro e w2 ⟨rfl, hp⟩
  exact ⟨rfl, Dsk.ofSt h1 h3 hp⟩
theorem usedD {W w1 : World} {d : Nat} {k : Dk} (h : Dsk W d k w1) : Calls Try.prog 21 #[.pointer (some ⟨d, 0, none⟩)] w1 fun e w2 => e = .returned (.int .i64 k.used) ∧ w2 = w1 := by
  obtain ⟨h1, S, h2, h3⟩ := h
  exact usedOf (St.start h2)
theorem quotaD {W w1 : World} {d : Nat} {k : Dk} (h : Dsk W d k w1) : Calls Try.prog 20 #[.pointer (some ⟨d, 0, none⟩)] w1 fun e w2 => e = .returned (.int .i64 k.quota) ∧ w2 = w1 := by
  obtain ⟨h1, S, h2, h3⟩ := h
  exact quotaOf (St.start h2)
theorem setqD {W w1 : World} {d : Nat} {k : Dk} (h : Dsk W d k w1) (q : Int) (hq : I64 q) : Calls Try.prog 19 #[.pointer (some ⟨d, 0, none⟩), .int .i64 q] w1 fun e w2 => (qB q = true ∧ e = .returned (.int .i64 0) ∧ Dsk W d (k.quotas q) w2) ∨ (qB q = false ∧ e = .returned (.int .i64 3) ∧ Dsk W d k w2) := by
  obtain ⟨h1, S, h2, h3⟩ := h
  refine (setqOf (St.start h2) q hq.1 hq.2).mono ?_
  rintro e w2 (⟨a1, rfl, a3⟩ | ⟨a1, rfl, a3⟩)
  · exact .inl ⟨a1, rfl, Dsk.ofSt h1 h3 a3⟩
  · exact .inr ⟨a1, rfl, Dsk.ofSt h1 h3 a3⟩
theorem imageD {W w1 : World} {d n : Nat} {k : Dk} (h : Dsk W d k w1) (hk : k.Dok n) : Calls Try.prog 25 #[.pointer (some ⟨d, 0, none⟩)] w1 fun e w2 => ∃ a l c, e = .returned (.slice a l c) ∧ ImgAt w2 (.slice a l c) (imK k) w1.heap.size ∧ Dsk W d k w2 ∧ Below w1.heap.size w1 w2 := by
  have h0 := h
  obtain ⟨h1, S, h2, h3⟩ := h
  refine (imageAll w1 d k n S h2 hk).mono ?_
  rintro e w2 ⟨a, l, c, rfl, hi, hb⟩
  exact ⟨a, l, c, rfl, hi, h0.later hb, hb⟩
theorem imK_len {k : Dk} {n : Nat} (h : k.Dok n) : (imK k).length ≤ 65536 := by
  unfold imK
  rw [imgL_len, nms_len]
  exact h.few
/-- What a disk keeps in a law with one disk that stays on. -/
structure Dk.Good (k : Dk) (n : Nat) : Prop where
  dok : k.Dok n
  sum : k.Sum
  on : k.On
theorem Dk.Good.chK {k : Dk} {n G : Nat} {kd m : Int} {nm to : ByteArray} {l : List Nat} (h : k.Good n) (hs : nm.size ≤ maxLen) (ht : to.size ≤ maxLen) (hn : n ≤ 4398046511102) (hG : ¬ k.live G) : (chK k kd nm to m l G).2.Good (n + 1) :=
  ⟨chK_dok h.dok h.sum.uok hs ht hn, chK_sum h.sum h.dok.ok.refs hG, h.on.chK.1⟩
theorem Dk.Good.quotas {k : Dk} {n : Nat} {q : Int} (h : k.Good n) (hq : qB q = true) : (k.quotas q).Good n := by
  have hq' : 0 ≤ q ∧ q ≤ 1073741824 := by simpa [qB] using hq
  obtain ⟨⟨⟨a1, a2, a3, a4⟩, b2, b3, b4, b5⟩, ⟨c1, c2, c3, c4, c5⟩, ⟨d1, d2⟩⟩ := h
  exact ⟨⟨⟨a1, a2, a3, a4⟩, b2, b3, b4, b5⟩, ⟨c1, c2, c3, hq', c5⟩, ⟨d1, d2⟩⟩
theorem Dk.Good.mono {k : Dk} {n m : Nat} (h : k.Good n) (hm : n ≤ m) : k.Good m := ⟨h.dok.mono hm, h.sum, h.on⟩
end Go.Proofs.Ytadflolbgcdncaa

/-! Operations on a disk that has nothing to do with some blocks: these stay. -/
namespace Go.Proofs.Ytadflolbgcdncaa
open Go.RowKit Go.Maps Plain
set_option linter.unusedVariables false
set_option linter.unusedSimpArgs false

/-- The blocks P of world W are there as they were. -/
structure Keep (P : Nat → Prop) (W w : World) : Prop where
  os : w.os = W.os
  tape : w.tape = W.tape
  output : w.output = W.output
  size : W.heap.size ≤ w.heap.size
  lt : ∀ x, P x → x < W.heap.size
  block : ∀ x, P x → w.heap[x]? = W.heap[x]?
theorem Keep.refl {P : Nat → Prop} {W : World} (h : ∀ x, P x → x < W.heap.size) : Keep P W W := ⟨rfl, rfl, rfl, Nat.le_refl _, h, fun _ _ => rfl⟩
theorem Keep.later {P : Nat → Prop} {W w w' : World} (h : Keep P W w) (hb : Below w.heap.size w w') : Keep P W w' :=
  ⟨hb.os.trans h.os, hb.tape.trans h.tape, hb.output.trans h.output, Nat.le_trans h.size hb.size, h.lt, fun x hx => (hb.block x (Nat.lt_of_lt_of_le (h.lt x hx) h.size)).trans (h.block x hx)⟩
theorem Keep.chg {P S : Nat → Prop} {W w w' : World} (h : Keep P W w) (hc : Chg S w w') (hS : ∀ x, S x → ¬ P x) : Keep P W w' :=
  ⟨hc.os.trans h.os, hc.tape.trans h.tape, hc.output.trans h.output, Nat.le_trans h.size hc.size, h.lt, fun x hx => (hc.block x (Nat.lt_of_lt_of_le (h.lt x hx) h.size) (fun hs => hS x hs hx)).trans (h.block x hx)⟩
theorem Keep.below {P : Nat → Prop} {W w : World} {B : Nat} (h : Keep P W w) (hP : ∀ x, x < B → P x) : Below B W w := ⟨h.os, h.tape, h.output, h.size, fun x hx => h.block x (hP x hx)⟩
theorem Keep.cell {P : Nat → Prop} {W w : World} {b o : Nat} {v : Value} (h : Keep P W w) (hb : P b) (hc : W.cell? ⟨b, o, none⟩ = some v) : w.cell? ⟨b, o, none⟩ = some v := by
  rw [World.cell?_of_block (w := W) (a := ⟨b, o, none⟩) (h.block b hb)]; exact hc
def DskP (P : Nat → Prop) (W : World) (d : Nat) (k : Dk) (w1 : World) : Prop := Keep P W w1 ∧ ∃ S, DiskAt w1 d k S ∧ ∀ x, S x → ¬ P x
theorem DskP.later {P : Nat → Prop} {W w1 w2 : World} {d : Nat} {k : Dk} (h : DskP P W d k w1) (hb : Below w1.heap.size w1 w2) : DskP P W d k w2 := by
  obtain ⟨h1, S, h2, h3⟩ := h
  exact ⟨h1.later hb, S, h2.later hb, h3⟩
theorem DskP.liveLt {P : Nat → Prop} {W w1 : World} {d G : Nat} {k : Dk} (h : DskP P W d k w1) (hG : k.live G) : G < w1.heap.size := by
  obtain ⟨_, S, ⟨ms, md, vc, rc, Sf, hm, _⟩, _⟩ := h
  exact (hm.files G hG).self
theorem DskP.ext {P S : Nat → Prop} {W w1 w2 : World} (h1 : Keep P W w1) (h3 : ∀ x, S x → ¬ P x) : ∀ x, Ext S w1 w2 x → ¬ P x := fun x hx hp => by
  rcases hx with hx | hx
  · exact h3 x hx hp
  · have := h1.lt x hp; have := h1.size; omega
theorem DskP.op {P : Nat → Prop} {W w1 w2 : World} {d : Nat} {S : Nat → Prop} {r : Int × Dk} {e : Ending} (h1 : Keep P W w1) (h3 : ∀ x, S x → ¬ P x) (h : OpPost d r S w1 e w2) : e = .returned (.int .i64 r.1) ∧ DskP P W d r.2 w2 := by
  obtain ⟨rfl, h4, h5⟩ := h
  exact ⟨rfl, h1.chg h5 h3, _, h4, DskP.ext h1 h3⟩
theorem DskP.ofSt {P : Nat → Prop} {W w1 w2 : World} {d : Nat} {k : Dk} {S : Nat → Prop} (h1 : Keep P W w1) (h3 : ∀ x, S x → ¬ P x) (h : St S w1 d k w2) : DskP P W d k w2 := ⟨h1.chg h.2 h3, _, h.1, DskP.ext h1 h3⟩
/-- A disk of new memory has nothing to do with the elder blocks; nor with a block that is newer than it. -/
theorem Dsk.toP {W w1 w2 : World} {d : Nat} {k : Dk} {B : Nat} (h : Dsk W d k w1) (hb : Below w1.heap.size w1 w2) (hB : w1.heap.size ≤ B) (hB2 : B < w2.heap.size) : DskP (fun x => x < W.heap.size ∨ x = B) w2 d k w2 := by
  obtain ⟨h1, S, h2, h3⟩ := h
  have hs1 := h1.size
  have hs2 := hb.size
  refine ⟨Keep.refl (fun x hx => ?_), S, h2.later hb, fun x hx hp => ?_⟩
  · rcases hx with hx | hx <;> omega
  · have e1 := h3 x hx
    have e2 := h2.rng x hx
    rcases hp with hp | hp <;> omega
theorem DskP.back {W W' w1 : World} {d : Nat} {k : Dk} {B : Nat} (h : DskP (fun x => x < W.heap.size ∨ x = B) W' d k w1) (hb : Below W.heap.size W W') : Dsk W d k w1 := by
  obtain ⟨h1, S, h2, h3⟩ := h
  refine ⟨hb.trans (h1.below (fun x hx => .inl hx)), S, h2, fun x hx => ?_⟩
  have := h3 x hx
  by_cases hlt : x < W.heap.size
  · exact absurd (.inl hlt) this
  · omega
abbrev PPost (P : Nat → Prop) (W : World) (d : Nat) (r : Int × Dk) : Ending → World → Prop := fun e w2 => e = .returned (.int .i64 r.1) ∧ DskP P W d r.2 w2
theorem createP {P : Nat → Prop} {W w1 : World} {d n : Nat} {k : Dk} {s : ByteArray} (h : DskP P W d k w1) (hs : s.size ≤ maxLen) (hk : k.Dok n) (hn : n ≤ 4398046511103) : Calls Try.prog 10 #[.pointer (some ⟨d, 0, none⟩), .string s] w1 fun e w2 => ∃ G, w1.heap.size ≤ G ∧ PPost P W d (createK k s G) e w2 := by
  obtain ⟨h1, S, h2, h3⟩ := h
  refine (createOf d k n S s hs w1 h2 hk hn).mono ?_
  rintro e w2 ⟨G, hG, hp⟩
  exact ⟨G, hG, DskP.op h1 h3 hp⟩
theorem syncP {P : Nat → Prop} {W w1 : World} {d n : Nat} {k : Dk} {s : ByteArray} (h : DskP P W d k w1) (hs : s.size ≤ maxLen) (hk : k.Dok n) (hn : n ≤ 4398046511103) : Calls Try.prog 12 #[.pointer (some ⟨d, 0, none⟩), .string s] w1 (PPost P W d (syncK k s)) := by
  obtain ⟨h1, S, h2, h3⟩ := h
  refine (syncOf d k n S s hs w1 h2 hk.ok hn).mono ?_
  rintro e w2 hp
  exact DskP.op h1 h3 hp
theorem syncDirP {P : Nat → Prop} {W w1 : World} {d n : Nat} {k : Dk} (h : DskP P W d k w1) (hk : k.Dok n) (hn : n ≤ 4398046511103) : Calls Try.prog 13 #[.pointer (some ⟨d, 0, none⟩)] w1 (PPost P W d (syncDirK k)) := by
  obtain ⟨h1, S, h2, h3⟩ := h
  refine (syncDirOf d k n S w1 h2 hk hn).mono ?_
  rintro e w2 hp
  exact DskP.op h1 h3 hp
theorem renameP {P : Nat → Prop} {W w1 : World} {d n : Nat} {k : Dk} {s t : ByteArray} (h : DskP P W d k w1) (hs : s.size ≤ maxLen) (ht : t.size ≤ maxLen) (hk : k.Dok n) (hu : k.Uok) (hn : n ≤ 4398046511103) : Calls Try.prog 14 #[.pointer (some ⟨d, 0, none⟩), .string s, .string t] w1 (PPost P W d (renameK k s t)) := by
  obtain ⟨h1, S, h2, h3⟩ := h
  refine (renameOf d k n S s t hs ht w1 h2 hk hu hn).mono ?_
  rintro e w2 hp
  exact DskP.op h1 h3 hp
theorem truncP {P : Nat → Prop} {W w1 : World} {d n : Nat} {k : Dk} {s : ByteArray} {m : Int} (h : DskP P W d k w1) (hs : s.size ≤ maxLen) (hm : I64 m) (hk : k.Dok n) (hu : k.Uok) (hn : n ≤ 4398046511103) : Calls Try.prog 52 #[.pointer (some ⟨d, 0, none⟩), .string s, .int .i64 m] w1 (PPost P W d (truncK k s m)) := by
  obtain ⟨h1, S, h2, h3⟩ := h
  refine (truncOf d k n S s hs m hm.1 hm.2 w1 h2 hk.ok hu hn).mono ?_
  rintro e w2 hp
  exact DskP.op h1 h3 hp
theorem removeP {P : Nat → Prop} {W w1 : World} {d n : Nat} {k : Dk} {s : ByteArray} (h : DskP P W d k w1) (hs : s.size ≤ maxLen) (hk : k.Dok n) (hu : k.Uok) (hn : n ≤ 4398046511103) : Calls Try.prog 53 #[.pointer (some ⟨d, 0, none⟩), .string s] w1 (PPost P W d (removeK k s)) := by
  obtain ⟨h1, S, h2, h3⟩ := h
  refine (removeOf d k n S s hs w1 h2 hk hu hn).mono ?_
  rintro e w2 hp
  exact DskP.op h1 h3 hp
theorem sizeP {P : Nat → Prop} {W w1 : World} {d n : Nat} {k : Dk} {s : ByteArray} (h : DskP P W d k w1) (hs : s.size ≤ maxLen) (hk : k.Dok n) : Calls Try.prog 22 #[.pointer (some ⟨d, 0, none⟩), .string s] w1 fun e w2 => e = .returned (.tuple #[.int .i64 ((szK k s).1 : Int), .int .i64 (szK k s).2]) ∧ DskP P W d k w2 := by
  obtain ⟨h1, S, h2, h3⟩ := h
  refine (sizeOf (St.start h2) hk.ok s hs).mono ?_
  rintro e w2 ⟨rfl, hp⟩
  exact ⟨rfl, DskP.ofSt h1 h3 hp⟩
theorem usedP {P : Nat → Prop} {W w1 : World} {d : Nat} {k : Dk} (h : DskP P W d k w1) : Calls Try.prog 21 #[.pointer (some ⟨d, 0, none⟩)] w1 fun e w2 => e = .returned (.int .i64 k.used) ∧ w2 = w1 := by
  obtain ⟨h1, S, h2, h3⟩ := h
  exact usedOf (St.start h2)
theorem quotaP {P : Nat → Prop} {W w1 : World} {d : Nat} {k : Dk} (h : DskP P W d k w1) : Calls Try.prog 20 #[.pointer (some ⟨d, 0, none⟩)] w1 fun e w2 => e = .returned (.int .i64 k.quota) ∧ w2 = w1 := by
  obtain ⟨h1, S, h2, h3⟩ := h
  exact quotaOf (St.start h2)
theorem setqP {P : Nat → Prop} {W w1 : World} {d : Nat} {k : Dk} (h : DskP P W d k w1) (q : Int) (hq : I64 q) : Calls Try.prog 19 #[.pointer (some ⟨d, 0, none⟩), .int .i64 q] w1 fun e w2 => (qB q = true ∧ e = .returned (.int .i64 0) ∧ DskP P W d (k.quotas q) w2) ∨ (qB q = false ∧ e = .returned (.int .i64 3) ∧ DskP P W d k w2) := by
  obtain ⟨h1, S, h2, h3⟩ := h
  refine (setqOf (St.start h2) q hq.1 hq.2).mono ?_
  rintro e w2 (⟨a1, rfl, a3⟩ | ⟨a1, rfl, a3⟩)
  · exact .inl ⟨a1, rfl, DskP.ofSt h1 h3 a3⟩
  · exact .inr ⟨a1, rfl, DskP.ofSt h1 h3 a3⟩
theorem imageP {P : Nat → Prop} {W w1 : World} {d n : Nat} {k : Dk} (h : DskP P W d k w1) (hk : k.Dok n) : Calls Try.prog 25 #[.pointer (some ⟨d, 0, none⟩)] w1 fun e w2 => ∃ a l c, e = .returned (.slice a l c) ∧ ImgAt w2 (.slice a l c) (imK k) w1.heap.size ∧ DskP P W d k w2 ∧ Below w1.heap.size w1 w2 := by
  have h0 := h
  obtain ⟨h1, S, h2, h3⟩ := h
  refine (imageAll w1 d k n S h2 hk).mono ?_
  rintro e w2 ⟨a, l, c, rfl, hi, hb⟩
  exact ⟨a, l, c, rfl, hi, h0.later hb, hb⟩
end Go.Proofs.Ytadflolbgcdncaa

/-! A changing step, over a disk that has nothing to do with some blocks. -/
namespace Go.Proofs.Ytadflolbgcdncaa
open Go.RowKit Go.Maps Plain
set_option linter.unusedVariables false
set_option linter.unusedSimpArgs false

abbrev ChPostP (P : Nat → Prop) (W : World) (d : Nat) (f : Nat → Int × Dk) (w1 : World) : Ending → World → Prop := fun e w2 => ∃ G, w1.heap.size ≤ G ∧ e = .returned (.tuple #[.int .i64 (f G).1, .bool true]) ∧ DskP P W d (f G).2 w2

set_option maxHeartbeats 1000000 in
set_option maxRecDepth 1000000 in
theorem changeCreateP {P : Nat → Prop} {W w : World} {d n : Nat} {k : Dk} (nm to : ByteArray) (at' m : Int) (vb vp : Value) (h : DskP P W d k w) (hs : nm.size ≤ maxLen) (hk : k.Dok n) (hn : n ≤ 4398046511103) :
    Calls Try.prog 23 #[.pointer (some ⟨d, 0, none⟩), .agg #[.int .i64 1, .string nm, .string to, .int .i64 at', .int .i64 m, vb, vp]] w (ChPostP P W d (createK k nm) w) := by
  have HC : Hid (∀ w1, Below w.heap.size w w1 → Calls Try.prog 10 #[.pointer (some ⟨d, 0, none⟩), .string nm] w1 fun e w2 => ∃ G, w1.heap.size ≤ G ∧ PPost P W d (createK k nm G) e w2) := fun w1 hb => createP (h.later hb) hs hk hn
  clear h hk
  go_enter Try.func23, Try.ntmps23
  go_wp2_with fail
  refine (HC.out _ ((Below.refl _ _).alloc (Nat.le_refl _) _)).mono ?_
  rintro e w1 ⟨G, hG, rfl, h1⟩
  have HP : Hid (ChPostP P W d (createK k nm) w (.returned (.tuple #[.int .i64 (createK k nm G).1, .bool true])) w1) := ⟨G, by simp at hG; omega, rfl, h1⟩
  clear h1
  generalize (createK k nm G).1 = z at *
  go_wp2
  go_ret2
  exact HP.out

set_option maxHeartbeats 1000000 in
set_option maxRecDepth 1000000 in
theorem changeTruncP {P : Nat → Prop} {W w : World} {d n : Nat} {k : Dk} (nm to : ByteArray) (at' m : Int) (vb vp : Value) (h : DskP P W d k w) (hs : nm.size ≤ maxLen) (hm : I64 m) (hk : k.Dok n) (hu : k.Uok) (hn : n ≤ 4398046511103) :
    Calls Try.prog 23 #[.pointer (some ⟨d, 0, none⟩), .agg #[.int .i64 3, .string nm, .string to, .int .i64 at', .int .i64 m, vb, vp]] w (ChPostP P W d (fun _ => truncK k nm m) w) := by
  have HC : Hid (∀ w1, Below w.heap.size w w1 → Calls Try.prog 52 #[.pointer (some ⟨d, 0, none⟩), .string nm, .int .i64 m] w1 (PPost P W d (truncK k nm m))) := fun w1 hb => truncP (h.later hb) hs hm hk hu hn
  clear h hk hu
  go_enter Try.func23, Try.ntmps23
  go_wp2_with fail
  refine (HC.out _ ((Below.refl _ _).alloc (Nat.le_refl _) _)).mono ?_
  rintro e w1 ⟨rfl, h1⟩
  have HP : Hid (ChPostP P W d (fun _ => truncK k nm m) w (.returned (.tuple #[.int .i64 (truncK k nm m).1, .bool true])) w1) := ⟨_, Nat.le_refl _, rfl, h1⟩
  clear h1
  generalize (truncK k nm m).1 = z at *
  go_wp2
  go_ret2
  exact HP.out

set_option maxHeartbeats 1000000 in
set_option maxRecDepth 1000000 in
theorem changeSyncP {P : Nat → Prop} {W w : World} {d n : Nat} {k : Dk} (nm to : ByteArray) (at' m : Int) (vb vp : Value) (h : DskP P W d k w) (hs : nm.size ≤ maxLen) (hk : k.Dok n) (hn : n ≤ 4398046511103) :
    Calls Try.prog 23 #[.pointer (some ⟨d, 0, none⟩), .agg #[.int .i64 4, .string nm, .string to, .int .i64 at', .int .i64 m, vb, vp]] w (ChPostP P W d (fun _ => syncK k nm) w) := by
  have HC : Hid (∀ w1, Below w.heap.size w w1 → Calls Try.prog 12 #[.pointer (some ⟨d, 0, none⟩), .string nm] w1 (PPost P W d (syncK k nm))) := fun w1 hb => syncP (h.later hb) hs hk hn
  clear h hk
  go_enter Try.func23, Try.ntmps23
  go_wp2_with fail
  refine (HC.out _ ((Below.refl _ _).alloc (Nat.le_refl _) _)).mono ?_
  rintro e w1 ⟨rfl, h1⟩
  have HP : Hid (ChPostP P W d (fun _ => syncK k nm) w (.returned (.tuple #[.int .i64 (syncK k nm).1, .bool true])) w1) := ⟨_, Nat.le_refl _, rfl, h1⟩
  clear h1
  generalize (syncK k nm).1 = z at *
  go_wp2
  go_ret2
  exact HP.out

set_option maxHeartbeats 1000000 in
set_option maxRecDepth 1000000 in
theorem changeSyncDirP {P : Nat → Prop} {W w : World} {d n : Nat} {k : Dk} (nm to : ByteArray) (at' m : Int) (vb vp : Value) (h : DskP P W d k w) (hk : k.Dok n) (hn : n ≤ 4398046511103) :
    Calls Try.prog 23 #[.pointer (some ⟨d, 0, none⟩), .agg #[.int .i64 5, .string nm, .string to, .int .i64 at', .int .i64 m, vb, vp]] w (ChPostP P W d (fun _ => syncDirK k) w) := by
  have HC : Hid (∀ w1, Below w.heap.size w w1 → Calls Try.prog 13 #[.pointer (some ⟨d, 0, none⟩)] w1 (PPost P W d (syncDirK k))) := fun w1 hb => syncDirP (h.later hb) hk hn
  clear h hk
  go_enter Try.func23, Try.ntmps23
  go_wp2_with fail
  refine (HC.out _ ((Below.refl _ _).alloc (Nat.le_refl _) _)).mono ?_
  rintro e w1 ⟨rfl, h1⟩
  have HP : Hid (ChPostP P W d (fun _ => syncDirK k) w (.returned (.tuple #[.int .i64 (syncDirK k).1, .bool true])) w1) := ⟨_, Nat.le_refl _, rfl, h1⟩
  clear h1
  generalize (syncDirK k).1 = z at *
  go_wp2
  go_ret2
  exact HP.out

set_option maxHeartbeats 1000000 in
set_option maxRecDepth 1000000 in
theorem changeRenameP {P : Nat → Prop} {W w : World} {d n : Nat} {k : Dk} (nm to : ByteArray) (at' m : Int) (vb vp : Value) (h : DskP P W d k w) (hs : nm.size ≤ maxLen) (ht : to.size ≤ maxLen) (hk : k.Dok n) (hu : k.Uok) (hn : n ≤ 4398046511103) :
    Calls Try.prog 23 #[.pointer (some ⟨d, 0, none⟩), .agg #[.int .i64 6, .string nm, .string to, .int .i64 at', .int .i64 m, vb, vp]] w (ChPostP P W d (fun _ => renameK k nm to) w) := by
  have HC : Hid (∀ w1, Below w.heap.size w w1 → Calls Try.prog 14 #[.pointer (some ⟨d, 0, none⟩), .string nm, .string to] w1 (PPost P W d (renameK k nm to))) := fun w1 hb => renameP (h.later hb) hs ht hk hu hn
  clear h hk hu
  go_enter Try.func23, Try.ntmps23
  go_wp2_with fail
  refine (HC.out _ ((Below.refl _ _).alloc (Nat.le_refl _) _)).mono ?_
  rintro e w1 ⟨rfl, h1⟩
  have HP : Hid (ChPostP P W d (fun _ => renameK k nm to) w (.returned (.tuple #[.int .i64 (renameK k nm to).1, .bool true])) w1) := ⟨_, Nat.le_refl _, rfl, h1⟩
  clear h1
  generalize (renameK k nm to).1 = z at *
  go_wp2
  go_ret2
  exact HP.out

set_option maxHeartbeats 1000000 in
set_option maxRecDepth 1000000 in
theorem changeRemoveP {P : Nat → Prop} {W w : World} {d n : Nat} {k : Dk} (nm to : ByteArray) (at' m : Int) (vb vp : Value) (h : DskP P W d k w) (hs : nm.size ≤ maxLen) (hk : k.Dok n) (hu : k.Uok) (hn : n ≤ 4398046511103) :
    Calls Try.prog 23 #[.pointer (some ⟨d, 0, none⟩), .agg #[.int .i64 7, .string nm, .string to, .int .i64 at', .int .i64 m, vb, vp]] w (ChPostP P W d (fun _ => removeK k nm) w) := by
  have HC : Hid (∀ w1, Below w.heap.size w w1 → Calls Try.prog 53 #[.pointer (some ⟨d, 0, none⟩), .string nm] w1 (PPost P W d (removeK k nm))) := fun w1 hb => removeP (h.later hb) hs hk hu hn
  clear h hk hu
  go_enter Try.func23, Try.ntmps23
  go_wp2_with fail
  refine (HC.out _ ((Below.refl _ _).alloc (Nat.le_refl _) _)).mono ?_
  rintro e w1 ⟨rfl, h1⟩
  have HP : Hid (ChPostP P W d (fun _ => removeK k nm) w (.returned (.tuple #[.int .i64 (removeK k nm).1, .bool true])) w1) := ⟨_, Nat.le_refl _, rfl, h1⟩
  clear h1
  generalize (removeK k nm).1 = z at *
  go_wp2
  go_ret2
  exact HP.out
set_option maxHeartbeats 4000000 in
set_option maxRecDepth 1000000 in
theorem changeAppendP {P : Nat → Prop} {W w : World} {d n : Nat} {k : Dk} (nm to : ByteArray) (at' m : Int) (vb vp : Value) (l : List Nat) (h : DskP P W d k w) (hs : nm.size ≤ maxLen) (hb : BytesAt w vb l) (hw : ∀ w', Keep P W w' → BytesAt w' vb l) (hl : l.length ≤ 140737488351232) (hk : k.Dok n) (hu : k.Uok) (hn : n ≤ 4398046511103) :
    Calls Try.prog 23 #[.pointer (some ⟨d, 0, none⟩), .agg #[.int .i64 2, .string nm, .string to, .int .i64 at', .int .i64 m, vb, vp]] w (ChPostP P W d (fun _ => appendK k nm l) w) := by
  obtain ⟨h1, S, h2, h3⟩ := h
  have hS := h2.rng
  have HB : Hid (BytesAt w vb l) := hb
  have HWW : Hid (∀ w', Keep P W w' → BytesAt w' vb l) := hw
  have H0 : Hid (Keep P W w ∧ DiskAt w d k S ∧ (∀ x, S x → ¬ P x) ∧ ∀ x, S x → x < w.heap.size) := ⟨h1, h2, h3, hS⟩
  have HAP : Hid (∀ (w1 : World) (g cap : Nat), Below w.heap.size w w1 → w.heap.size ≤ g → Own w1 (.slice (some ⟨g, 0, none⟩) (l.length + 8) cap) (l ++ marks 8) (some g) → Calls Try.prog 11 #[.pointer (some ⟨d, 0, none⟩), .string nm, .slice (some ⟨g, 0, none⟩) l.length cap] w1 (OpPost d (appendK k nm l) S w1)) := fun w1 g cap hb1 hg ho =>
    appendOf d k n S nm hs _ l w1 (h2.later hb1) hk.ok hu hn (fun w' hc => BytesAt.head (ho.apart hc (fun e => by have := hS g e; omega)))
  have hW0 := h1.size
  obtain ⟨R, hR⟩ : ∃ R, appendK k nm l = R := ⟨_, rfl⟩
  rw [hR] at HAP
  rw [show (fun _ : Nat => appendK k nm l) = fun _ => R by rw [hR]]
  clear h1 h2 h3 hS hb hw hk hu hR
  go_enter Try.func23, Try.ntmps23
  go_wp2_with fail
  refine (roomy _ l _ (HB.out.later ((Below.refl _ _).alloc (Nat.le_refl _) _)) hl).mono ?_
  rintro e w1 ⟨g, cap, rfl, ho, hg, hb1⟩
  have HO : Hid (Own w1 (.slice (some ⟨g, 0, none⟩) (l.length + 8) cap) (l ++ marks 8) (some g)) := ho
  have hgw : w.heap.size + 1 ≤ g := by simpa using hg
  have HB1 : Hid (Below (w.heap.size + 1) (w.alloc (.cells #[.int .i64 2, .string nm, .string to, .int .i64 at', .int .i64 m, vb, vp] 44)) w1) := by unfold Hid; simpa using hb1
  have HBL : Hid (Below w.heap.size w w1) := ((Below.refl _ _).alloc (Nat.le_refl _) _).trans (HB1.out.mono (by omega))
  clear ho hg hb1
  have c1 : w1.cell? ⟨w.heap.size, 1, none⟩ = some (.string nm) := by
    rw [HB1.out.cell (p := ⟨_, _, none⟩) (by simp)]; simp
  have c5 : w1.cell? ⟨w.heap.size, 5, none⟩ = some vb := by
    rw [HB1.out.cell (p := ⟨_, _, none⟩) (by simp)]; simp
  have hs1 := HB1.out.size
  go_wp2_with fail
  refine (HAP.out w1 g cap HBL.out (by omega) HO.out).mono ?_
  rintro e w2 ⟨rfl, hd2, hc2⟩
  have hs2 := hc2.size
  have hglt : g < w1.heap.size := HO.out.lt
  have hnS : ∀ x, w.heap.size ≤ x → ¬ S x := fun x hx e => by have := H0.out.2.2.2 x e; omega
  have HD2 : Hid (DiskAt w2 d R.2 (Ext S w1 w2) ∧ (∀ x, Ext S w1 w2 x → ¬ P x) ∧ ¬ Ext S w1 w2 g) := by
    refine ⟨hd2, DskP.ext (H0.out.1.later HBL.out) H0.out.2.2.1, fun hx => ?_⟩
    · rcases hx with hx | hx
      · exact hnS g (by omega) hx
      · omega
  have HBB : Hid (Keep P W w2) := (H0.out.1.later HBL.out).chg hc2 H0.out.2.2.1
  have d5 : w2.cell? ⟨w.heap.size, 5, none⟩ = some vb := by
    rw [World.cell?_of_block (w := w1) (a := ⟨w.heap.size, 5, none⟩) (hc2.block w.heap.size (by simp at hs1; omega) (hnS _ (Nat.le_refl _)))]; exact c5
  have HO2 : Hid (Own w2 (.slice (some ⟨g, 0, none⟩) (l.length + 8) cap) (l ++ marks 8) (some g)) := HO.out.apart hc2 (hnS g (by omega))
  clear c1 c5 HO HB1 hs1 hd2 hc2 hnS HAP
  go_wp2_with fail
  refine (kept g cap l l vb w2 (HWW.out w2 HBB.out) rfl HO2.out).mono ?_
  rintro e w3 ⟨rfl, q, rfl⟩
  obtain ⟨hby, hr⟩ := HO2.out
  rcases hr with ⟨e, _⟩ | ⟨g', cap', e, e2, hg, h1, h2, h3, h4, h5⟩
  · simp at e
  simp at e; subst e
  simp only [Value.slice.injEq, true_and] at e2
  obtain ⟨-, rfl⟩ := e2
  have hc8 : l.length + 8 ≤ cap := by simp [marks_len] at h1; omega
  have H3 : Hid (∀ j, j < cap → w2.frozen? ⟨g, j, none⟩ = false) := h3
  have H4 : Hid (∀ j, j < cap → (w2.cell? ⟨g, j, none⟩).isSome = true) := h4
  unfold maxLen at h2
  clear hby h1 h3 h4 h5 HO2 hg d5
  simp only [decide_true]
  go_wp2
  go_loopw [9] (fun i wr => ∃ kk : Nat, kk ≤ l.length ∧ i = .int .i64 kk ∧ Keep P W wr ∧ DiskAt wr d R.2 (Ext S w1 w2) ∧ (∀ j, wr.frozen? ⟨g, j, none⟩ = w2.frozen? ⟨g, j, none⟩) ∧ (∀ j, j < cap → (wr.cell? ⟨g, j, none⟩).isSome = true)) (fun i _ => l.length - (intOf i).toNat)
  case atStart => exact ⟨0, by omega, rfl, HBB.out.later (below_drewN' w2 q), HD2.out.1.later (below_drewN' w2 q), fun _ => rfl, H4.out⟩
  case round =>
    obtain ⟨kk, hkk, rfl, hbl, hdd, hfr, hsome⟩ := hrel
    by_cases hlt : kk < l.length
    · obtain ⟨old, hold⟩ := Option.isSome_iff_exists.mp (hsome kk (by omega))
      have hfz : wr.frozen? ⟨g, kk, none⟩ = false := by rw [hfr]; exact H3.out kk (by omega)
      have HREL : Hid (Keep P W (wr.setCell ⟨g, kk, none⟩ (.int .u8 77)) ∧ DiskAt (wr.setCell ⟨g, kk, none⟩ (.int .u8 77)) d R.2 (Ext S w1 w2) ∧ (∀ j, (wr.setCell ⟨g, kk, none⟩ (.int .u8 77)).frozen? ⟨g, j, none⟩ = w2.frozen? ⟨g, j, none⟩) ∧
          (∀ j, j < cap → ((wr.setCell ⟨g, kk, none⟩ (.int .u8 77)).cell? ⟨g, j, none⟩).isSome = true)) := by
        refine ⟨hbl.chg (S := fun x => x = g) ((Chg.refl _ _).grown (grow_set wr g kk (.int .u8 77)) (fun g' e => by simp at e; exact .inl e.symm)) (fun x hx hp => by have := hbl.lt x hp; subst hx; omega), hdd.frame (by simp) (fun x hx => (grow_set wr g kk (.int .u8 77)).block x (hdd.rng x hx) (fun e => by simp at e; subst e; exact HD2.out.2.2 hx)), fun j => ?_, fun j hj => ?_⟩
        · rw [← hfr j]; exact World.frozen?_setCells g [.int .u8 77] kk wr _
        · exact isSome_setCells g [.int .u8 77] kk wr _ (hsome j hj)
      clear hbl hfr hsome hdd
      go_wp2
      go_roundw
      case rel => exact ⟨kk + 1, by omega, by go_num, HREL.out⟩
      case measure => simp [intOf]; omega
    · have HP : Hid (ChPostP P W d (fun _ => R) w (.returned (.tuple #[.int .i64 R.1, .bool true])) wr) := ⟨_, Nat.le_refl _, rfl, hbl, _, hdd, HD2.out.2.1⟩
      clear hbl hfr hsome hdd
      go_wp2
      go_ret2
      exact HP.out

theorem changeAllP {P : Nat → Prop} {W w : World} {d n : Nat} {k : Dk} (kd : Int) (nm to : ByteArray) (at' m : Int) (vb vp : Value) (l : List Nat) (hk1 : 1 ≤ kd) (hk7 : kd ≤ 7) (h : DskP P W d k w) (hs : nm.size ≤ maxLen) (ht : to.size ≤ maxLen) (hm : I64 m) (hw : ∀ w', Keep P W w' → BytesAt w' vb l) (hl : l.length ≤ 140737488351232) (hk : k.Dok n) (hu : k.Uok) (hn : n ≤ 4398046511103) :
    Calls Try.prog 23 #[.pointer (some ⟨d, 0, none⟩), .agg #[.int .i64 kd, .string nm, .string to, .int .i64 at', .int .i64 m, vb, vp]] w (ChPostP P W d (chK k kd nm to m l) w) := by
  have : kd = 1 ∨ kd = 2 ∨ kd = 3 ∨ kd = 4 ∨ kd = 5 ∨ kd = 6 ∨ kd = 7 := by omega
  rcases this with rfl | rfl | rfl | rfl | rfl | rfl | rfl
  · exact changeCreateP nm to at' m vb vp h hs hk hn
  · exact changeAppendP nm to at' m vb vp l h hs (hw _ h.1) hw hl hk hu hn
  · exact changeTruncP nm to at' m vb vp h hs hm hk hu hn
  · exact changeSyncP nm to at' m vb vp h hs hk hn
  · exact changeSyncDirP nm to at' m vb vp h hk hn
  · exact changeRenameP nm to at' m vb vp h hs ht hk hu hn
  · exact changeRemoveP nm to at' m vb vp h hs hk hu hn
end Go.Proofs.Ytadflolbgcdncaa
