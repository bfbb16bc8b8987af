import Derived.Test.YtbngedfpojnbjabLaw
import Derived.Test.YtbngedfpojnbjabRef
/-! Writers: a struct of one field, a row of bytes. -/
namespace Go.Proofs.Ytbngedfpojnbjab
open Go.RowKit Plain
set_option linter.unusedVariables false

/-- The writer in block b has written data, which lies in block r. -/
def WAt (w : World) (b : Nat) (data : List Nat) (r : Option Nat) : Prop :=
  ∃ dv, w.cell? ⟨b, 0, none⟩ = some dv ∧ w.frozen? ⟨b, 0, none⟩ = false ∧ Own w dv data r ∧ r ≠ some b

/-- Of what was there only blocks b and r have turned. -/
structure Kept2 (w w' : World) (b : Nat) (r : Option Nat) : Prop where
  os : w'.os = w.os
  tape : w'.tape = w.tape
  output : w'.output = w.output
  size : w.heap.size ≤ w'.heap.size
  block : ∀ k, k < w.heap.size → k ≠ b → some k ≠ r → w'.heap[k]? = w.heap[k]?

def WPost (w w' : World) (b : Nat) (data : List Nat) (r : Option Nat) : Prop :=
  ∃ r', WAt w' b data r' ∧ Kept2 w w' b r ∧ (r' = r ∨ ∃ g, r' = some g ∧ w.heap.size ≤ g)

theorem WAt.lt {w : World} {b : Nat} {data : List Nat} {r : Option Nat} (h : WAt w b data r) : b < w.heap.size := by
  obtain ⟨dv, h1, _⟩ := h
  exact cell_lt h1
theorem WAt.byte {w : World} {b : Nat} {data : List Nat} {r : Option Nat} (h : WAt w b data r) : ∀ c ∈ data, c < 256 := by
  obtain ⟨dv, _, _, h1, _⟩ := h
  exact h1.1

theorem Kept2.refl (w : World) (b : Nat) (r : Option Nat) : Kept2 w w b r := ⟨rfl, rfl, rfl, Nat.le_refl _, fun _ _ _ _ => rfl⟩
theorem Kept2.of_grow {w w' : World} {b : Nat} {r : Option Nat} (h : w.grownBy w' r) : Kept2 w w' b r := ⟨h.os, h.tape, h.output, h.size, fun k hk _ hr => h.block k hk hr⟩
theorem Kept2.of_below {w w' : World} {b : Nat} {r : Option Nat} (h : Below w.heap.size w w') : Kept2 w w' b r := ⟨h.os, h.tape, h.output, h.size, fun k hk _ _ => h.block k hk⟩
theorem Kept2.trans {a m c : World} {b : Nat} {r r' : Option Nat} (h : Kept2 a m b r) (k : Kept2 m c b r') (hr : r' = r ∨ ∃ g, r' = some g ∧ a.heap.size ≤ g) : Kept2 a c b r :=
  ⟨k.os.trans h.os, k.tape.trans h.tape, k.output.trans h.output, Nat.le_trans h.size k.size, fun i hi hb hne => by
    rw [k.block i (Nat.lt_of_lt_of_le hi h.size) hb ?_]
    · exact h.block i hi hb hne
    · rcases hr with rfl | ⟨g, rfl, hg⟩
      · exact hne
      · simp only [ne_eq, Option.some.injEq]; omega⟩
theorem Kept2.below {w w' : World} {b : Nat} {r : Option Nat} {B : Nat} (h : Kept2 w w' b r) (hB : B ≤ w.heap.size) (hb : B ≤ b) (hr : ∀ g, r = some g → B ≤ g) : Below B w w' :=
  ⟨h.os, h.tape, h.output, h.size, fun k hk => h.block k (Nat.lt_of_lt_of_le hk hB) (by omega) (fun e => by have := hr k e.symm; omega)⟩

theorem WPost.on {a m c : World} {b : Nat} {e : List Nat} {r r1 : Option Nat} (h2 : Kept2 a m b r) (h3 : r1 = r ∨ ∃ g, r1 = some g ∧ a.heap.size ≤ g) (k : WPost m c b e r1) : WPost a c b e r := by
  obtain ⟨r2, k1, k2, k3⟩ := k
  refine ⟨r2, k1, h2.trans k2 h3, ?_⟩
  rcases k3 with rfl | ⟨g, rfl, hg⟩
  · exact h3
  · exact .inr ⟨g, rfl, Nat.le_trans h2.size hg⟩

theorem WAt.kept {w w' : World} {b : Nat} {data : List Nat} {r : Option Nat} (h : WAt w b data r) (hs : w.heap.size ≤ w'.heap.size) (h1 : w'.heap[b]? = w.heap[b]?) (h2 : ∀ g, r = some g → w'.heap[g]? = w.heap[g]?) : WAt w' b data r := by
  obtain ⟨dv, a1, a2, a3, a4⟩ := h
  refine ⟨dv, by rw [World.cell?_of_block (w := w) (a := ⟨b, 0, none⟩) h1]; exact a1, by rw [World.frozen?_of_block (w := w) (a := ⟨b, 0, none⟩) h1]; exact a2, ?_, a4⟩
  refine ⟨a3.1, ?_⟩
  rcases a3.2 with h0 | ⟨g, cap, rfl, rfl, hg, b1, b2, b3, b4, b5⟩
  · exact .inl h0
  · have hb := h2 g rfl
    refine .inr ⟨g, cap, rfl, rfl, Nat.lt_of_lt_of_le hg hs, b1, b2, fun j hj => ?_, fun j hj => ?_, fun j hj => ?_⟩
    · rw [World.frozen?_of_block (w := w) (a := ⟨g, j, none⟩) hb]; exact b3 j hj
    · rw [World.cell?_of_block (w := w) (a := ⟨g, j, none⟩) hb]; exact b4 j hj
    · rw [World.cell?_of_block (w := w) (a := ⟨g, j, none⟩) hb]; exact b5 j hj

theorem WAt.later {w w' : World} {b : Nat} {data : List Nat} {r : Option Nat} (h : WAt w b data r) (k : Below w.heap.size w w') : WAt w' b data r := by
  refine h.kept k.size (k.block b h.lt) (fun g hg => ?_)
  obtain ⟨dv, _, _, a3, _⟩ := h
  subst hg
  exact k.block g a3.lt

theorem WPost.of_below {w w' : World} {b : Nat} {data : List Nat} {r : Option Nat} (h : WAt w b data r) (k : Below w.heap.size w w') : WPost w w' b data r := ⟨r, h.later k, Kept2.of_below k, .inl rfl⟩

theorem Own.isSlice {w : World} {v : Value} {l : List Nat} {r : Option Nat} (h : Own w v l r) : ∃ a cap, v = .slice a l.length cap := by
  obtain ⟨a, cap, e, _⟩ := h.bytes
  exact ⟨a, cap, e⟩

/-- What has been appended is stored. -/
theorem wat_store {w w1 : World} {b : Nat} {data data' : List Nat} {r r' : Option Nat} {v' : Value} (h : WAt w b data r) (hg : w.grownBy w1 r) (ho : Own w1 v' data' r') (hr : r' = r ∨ ∃ g, r' = some g ∧ w.heap.size ≤ g) :
    WPost w (w1.setCell ⟨b, 0, none⟩ v') b data' r := by
  have hb := h.lt
  obtain ⟨dv, a1, a2, a3, a4⟩ := h
  have hbl : w1.heap[b]? = w.heap[b]? := hg.block b hb (fun e => a4 e.symm)
  have hc1 : w1.cell? ⟨b, 0, none⟩ = some dv := by rw [World.cell?_of_block (w := w) (a := ⟨b, 0, none⟩) hbl]; exact a1
  have hf1 : w1.frozen? ⟨b, 0, none⟩ = false := by rw [World.frozen?_of_block (w := w) (a := ⟨b, 0, none⟩) hbl]; exact a2
  have hne : r' ≠ some b := by
    rcases hr with rfl | ⟨g, rfl, hg'⟩
    · exact a4
    · simp; omega
  have hset : w1.grownBy (w1.setCell ⟨b, 0, none⟩ v') (some b) := grow_setCells w1 b 0 [v']
  refine ⟨r', ⟨v', World.cell?_setCell_same _ _ _ hc1, ?_, ho.kept hset (.inr hne), hne⟩, ⟨hset.os.trans hg.os, hset.tape.trans hg.tape, hset.output.trans hg.output, Nat.le_trans hg.size hset.size, fun k hk hkb hkr => ?_⟩, hr⟩
  · have := World.frozen?_setCells b [v'] 0 w1 ⟨b, 0, none⟩
    rw [← hf1]; exact this
  · rw [hset.block k (Nat.lt_of_lt_of_le hk hg.size) (by simp; exact hkb)]
    exact hg.block k hk hkr

theorem wat_cells {w w1 : World} {b : Nat} {data : List Nat} {r : Option Nat} {dv : Value} (hc : w.cell? ⟨b, 0, none⟩ = some dv) (hf : w.frozen? ⟨b, 0, none⟩ = false) (hr : r ≠ some b) (hg : w.grownBy w1 r) :
    w1.cell? ⟨b, 0, none⟩ = some dv ∧ w1.frozen? ⟨b, 0, none⟩ = false := by
  have hbl : w1.heap[b]? = w.heap[b]? := hg.block b (cell_lt hc) (fun e => hr e.symm)
  exact ⟨by rw [World.cell?_of_block (w := w) (a := ⟨b, 0, none⟩) hbl]; exact hc, by rw [World.frozen?_of_block (w := w) (a := ⟨b, 0, none⟩) hbl]; exact hf⟩

theorem one_byte (c j : Nat) (h : j < [c].length) : (#[Value.int .u8 (c : Int)] : Array Value)[j]? = some (.int .u8 (([c].getD j 0 : Nat) : Int)) := by
  match j, h with
  | 0, _ => rfl

theorem wByte (b : Nat) (data : List Nat) (r : Option Nat) (c : Nat) (w : World) (h : WAt w b data r) (hc : c < 256) (hl : data.length + 1 ≤ 140737488355328) :
    Calls Try.prog 31 #[.pointer (some ⟨b, 0, none⟩), .int .u8 c] w fun e w' => e = .returned (.tuple #[]) ∧ WPost w w' b (data ++ [c]) r := by
  have HW : Hid (WAt w b data r) := h
  obtain ⟨dv, hcell, hfz, ho, hne⟩ := h
  have HO : Hid (Own w dv data r) := ho
  have HNE : Hid (r ≠ some b) := hne
  have hblt := cell_lt hcell
  clear ho hne
  go_enter Try.func31, Try.ntmps31
  go_wp2_with (at_builtin; refine wpList_append_row _ rfl _ _ 23 23 rfl Try.underlying23 _ _ data [c] r rfl rfl ?hOwn ?hByte ?hSrc ?hLen ?_)
  case hOwn => exact HO.out.later ((Below.refl _ _).alloc (Nat.le_refl _) _)
  case hSrc => exact src_one w c 23 5 Try.underlying23
  intro v' w1 r' ho' hg' hr' hn'
  obtain ⟨a', cap', rfl⟩ := ho'.isSlice
  have HO2 : Hid (Own w1 (.slice a' (data ++ [c]).length cap') (data ++ [c]) r') := ho'
  have HG : Hid (w.grownBy w1 r) := grow_trans (below_grow ((Below.refl _ _).alloc (Nat.le_refl _) _) r) hg' (.inl rfl)
  have HR : Hid (r' = r ∨ ∃ g, r' = some g ∧ w.heap.size ≤ g) := by
    rcases hr' with rfl | rfl
    · exact .inl rfl
    · exact .inr ⟨_, rfl, by simp⟩
  obtain ⟨hcell1, hfz1⟩ := wat_cells (data := data) hcell hfz HNE.out HG.out
  clear ho' hg' hr' hn' hcell hfz
  go_wp2
  go_end0
  exact ⟨rfl, by simpa using wat_store HW.out HG.out HO2.out HR.out⟩

theorem wUvarint (b : Nat) (data : List Nat) (r : Option Nat) (v : Nat) (w : World) (h : WAt w b data r) (hv : v < 18446744073709551616) (hl : data.length + 10 ≤ 140737488355328) :
    Calls Try.prog 33 #[.pointer (some ⟨b, 0, none⟩), .int .u64 v] w fun e w' => e = .returned (.tuple #[]) ∧ WPost w w' b (data ++ uv v) r := by
  have HW : Hid (WAt w b data r) := h
  obtain ⟨dv, hcell, hfz, ho, hne⟩ := h
  have HO : Hid (Own w dv data r) := ho
  have HNE : Hid (r ≠ some b) := hne
  have hblt := cell_lt hcell
  clear ho hne
  go_enter Try.func33, Try.ntmps33
  go_wp2_with fail
  refine (appendUvarint dv data r v _ hv HO.out hl).mono ?_
  rintro e w1 ⟨v', r', rfl, ho', hg', hr', hn'⟩
  obtain ⟨a', cap', rfl⟩ := ho'.isSlice
  have HO2 : Hid (Own w1 (.slice a' (data ++ uv v).length cap') (data ++ uv v) r') := ho'
  have HG : Hid (w.grownBy w1 r) := hg'
  have HR : Hid (r' = r ∨ ∃ g, r' = some g ∧ w.heap.size ≤ g) := hr'
  obtain ⟨hcell1, hfz1⟩ := wat_cells (data := data) hcell hfz HNE.out HG.out
  clear ho' hg' hr' hn' hcell hfz
  go_wp2
  go_end0
  exact ⟨rfl, by simpa using wat_store HW.out HG.out HO2.out HR.out⟩

theorem wVarint (b : Nat) (data : List Nat) (r : Option Nat) (s : Int) (w : World) (h : WAt w b data r) (h1 : -9223372036854775808 ≤ s) (h2 : s ≤ 9223372036854775807) (hl : data.length + 10 ≤ 140737488355328) :
    Calls Try.prog 35 #[.pointer (some ⟨b, 0, none⟩), .int .i64 s] w fun e w' => e = .returned (.tuple #[]) ∧ WPost w w' b (data ++ uv (zz s).toNat) r := by
  have HW : Hid (WAt w b data r) := h
  have hz := zz_range s h1 h2
  obtain ⟨z, hzz⟩ : ∃ z : Nat, zz s = (z : Int) := ⟨(zz s).toNat, by omega⟩
  clear h
  go_enter Try.func35, Try.ntmps35
  go_wp2_with fail
  refine (zigzag s _ h1 h2).mono ?_
  rintro e w1 ⟨rfl, rfl⟩
  rw [hzz]
  go_wp2_with fail
  refine (wUvarint b data r z _ HW.out (by omega) hl).mono ?_
  rintro e w2 ⟨rfl, hp⟩
  have HP : Hid (WPost w1 w2 b (data ++ uv z) r) := hp
  clear hp
  go_wp2
  go_end0
  rw [show (zz s).toNat = z by omega]
  exact ⟨rfl, HP.out⟩

/-- A number of n bytes, the highest first. -/
def be : Nat → Nat → List Nat
  | 0, _ => []
  | n + 1, v => (v / 2 ^ (8 * n) % 256) :: be n v

theorem be_len (v : Nat) : ∀ n, (be n v).length = n
  | 0 => rfl
  | n + 1 => by simp [be, be_len v n]
theorem be_byte (v : Nat) : ∀ n, ∀ c ∈ be n v, c < 256
  | 0, c, h => by simp [be] at h
  | n + 1, c, h => by
    simp only [be, List.mem_cons] at h
    rcases h with rfl | h
    · omega
    · exact be_byte v n c h

set_option maxRecDepth 1000000 in
theorem wFixed (b : Nat) (data : List Nat) (r : Option Nat) (v n : Nat) (w : World) (h : WAt w b data r) (hv : v < 18446744073709551616) (hn : n ≤ 8) (hl : data.length + 8 ≤ 140737488355328) :
    Calls Try.prog 48 #[.pointer (some ⟨b, 0, none⟩), .int .u64 v, .int .i64 n] w fun e w' => e = .returned (.tuple #[]) ∧ WPost w w' b (data ++ be n v) r := by
  have HW : Hid (WAt w b data r) := h
  clear h
  go_enter Try.func48, Try.ntmps48
  go_wp2
  go_loopw [2] (fun i wr => ∃ (k : Nat) (d : List Nat), k ≤ n ∧ i = .int .i64 k ∧ be n v = d ++ be k v ∧ WPost w wr b (data ++ d) r) (fun i _ => (intOf i).toNat)
  case atStart => exact ⟨n, [], by omega, rfl, rfl, by simpa using WPost.of_below HW.out (Below.refl _ _)⟩
  case round =>
    obtain ⟨k, d, hk, rfl, hd, hp⟩ := hrel
    have HP : Hid (WPost w wr b (data ++ d) r) := hp
    have HD : Hid (be n v = d ++ be k v) := hd
    have hdl : d.length + k ≤ 8 := by
      have := congrArg List.length hd
      rw [be_len, List.length_append, be_len] at this
      omega
    clear hp hd
    by_cases hk0 : k = 0
    · subst hk0
      go_wp2
      go_end0
      refine ⟨rfl, ?_⟩
      rw [HD.out]
      simpa [be] using HP.out
    · obtain ⟨m, rfl⟩ : ∃ m, k = m + 1 := ⟨k - 1, by omega⟩
      obtain ⟨c, hc⟩ : ∃ c, v / 2 ^ (8 * m) % 256 = c := ⟨_, rfl⟩
      have hcc : (v : Int) / 2 ^ (8 * m) % 256 = (c : Int) := by rw [← hc]; simp
      have hc256 : c < 256 := by omega
      have HD2 : Hid (be n v = (d ++ [c]) ++ be m v) := by unfold Hid; rw [HD.out, be, hc]; simp
      have hm8 : m ≤ 7 := by omega
      clear HD hc
      obtain ⟨r1, hw1, hk1, hr1⟩ := HP.out
      have HW1 : Hid (WAt wr b (data ++ d) r1) := hw1
      have HK1 : Hid (Kept2 w wr b r) := hk1
      have HR1 : Hid (r1 = r ∨ ∃ g, r1 = some g ∧ w.heap.size ≤ g) := hr1
      clear hw1 hk1 hr1 HP
      go_wp2_with fail
      refine (wByte b (data ++ d) r1 c wr HW1.out hc256 (by simp; omega)).mono ?_
      rintro e w1 ⟨rfl, hp1⟩
      have HP1 : Hid (WPost w w1 b (data ++ (d ++ [c])) r) := WPost.on HK1.out HR1.out (by rw [← List.append_assoc]; exact hp1)
      clear hp1
      go_wp2
      go_roundw
      case rel => exact ⟨m, d ++ [c], by omega, by go_num, HD2.out, HP1.out⟩
      case measure => simp [intOf]

theorem wU32 (b : Nat) (data : List Nat) (r : Option Nat) (v : Nat) (w : World) (h : WAt w b data r) (hv : v < 4294967296) (hl : data.length + 8 ≤ 140737488355328) :
    Calls Try.prog 37 #[.pointer (some ⟨b, 0, none⟩), .int .u32 v] w fun e w' => e = .returned (.tuple #[]) ∧ WPost w w' b (data ++ be 4 v) r := by
  have HW : Hid (WAt w b data r) := h
  clear h
  go_enter Try.func37, Try.ntmps37
  go_wp2_with fail
  refine (wFixed b data r v 4 _ HW.out (by omega) (by omega) hl).mono ?_
  rintro e w1 ⟨rfl, hp⟩
  have HP : Hid (WPost w w1 b (data ++ be 4 v) r) := hp
  clear hp
  go_wp2
  go_end0
  exact ⟨rfl, HP.out⟩

theorem wU64 (b : Nat) (data : List Nat) (r : Option Nat) (v : Nat) (w : World) (h : WAt w b data r) (hv : v < 18446744073709551616) (hl : data.length + 8 ≤ 140737488355328) :
    Calls Try.prog 39 #[.pointer (some ⟨b, 0, none⟩), .int .u64 v] w fun e w' => e = .returned (.tuple #[]) ∧ WPost w w' b (data ++ be 8 v) r := by
  have HW : Hid (WAt w b data r) := h
  clear h
  go_enter Try.func39, Try.ntmps39
  go_wp2_with fail
  refine (wFixed b data r v 8 _ HW.out (by omega) (by omega) hl).mono ?_
  rintro e w1 ⟨rfl, hp⟩
  have HP : Hid (WPost w w1 b (data ++ be 8 v) r) := hp
  clear hp
  go_wp2
  go_end0
  exact ⟨rfl, HP.out⟩

/-- A text's bytes, as numbers. -/
def bytesOf (s : ByteArray) : List Nat := s.data.toList.map (·.toNat)
theorem bytesOf_len (s : ByteArray) : (bytesOf s).length = s.size := by simp [bytesOf]
theorem bytesOf_byte (s : ByteArray) : ∀ c ∈ bytesOf s, c < 256 := by
  intro c hc
  obtain ⟨x, _, rfl⟩ := List.mem_map.mp hc
  exact x.toNat_lt

theorem wText (b : Nat) (data : List Nat) (r : Option Nat) (s : ByteArray) (w : World) (h : WAt w b data r) (hl : data.length + s.size + 10 ≤ 140737488355328) :
    Calls Try.prog 41 #[.pointer (some ⟨b, 0, none⟩), .string s] w fun e w' => e = .returned (.tuple #[]) ∧ WPost w w' b (data ++ (uv s.size ++ bytesOf s)) r := by
  have HW : Hid (WAt w b data r) := h
  obtain ⟨dv, hcell, hfz, ho, hne⟩ := h
  have HO : Hid (Own w dv data r) := ho
  have HNE : Hid (r ≠ some b) := hne
  have hblt := cell_lt hcell
  have h10 := uv_len10 (v := s.size) (by omega)
  clear ho hne
  go_enter Try.func41, Try.ntmps41
  go_wp2_with fail
  refine (appendUvarint dv data r s.size _ (by omega) HO.out (by omega)).mono ?_
  rintro e w1 ⟨v1, r1, rfl, ho1, hg1, hr1, hn1⟩
  have HO1 : Hid (Own w1 v1 (data ++ uv s.size) r1) := ho1
  have HG1 : Hid (w.grownBy w1 r) := hg1
  have HR1 : Hid (r1 = r ∨ ∃ g, r1 = some g ∧ w.heap.size ≤ g) := hr1
  clear ho1 hg1 hr1 hn1
  go_wp2_with (at_builtin; refine wpList_append_row _ rfl _ _ 23 9 rfl Try.underlying23 _ _ (data ++ uv s.size) (bytesOf s) r1 rfl rfl ?hOwn ?hByte ?hSrc ?hLen ?_)
  case hOwn => exact HO1.out
  case hByte => exact bytesOf_byte s
  case hSrc => exact src_str Try.underlying9
  case hLen => rw [bytesOf_len]; simp; omega
  intro v' w2 r' ho' hg' hr' hn'
  obtain ⟨a', cap', rfl⟩ := ho'.isSlice
  have HO2 : Hid (Own w2 (.slice a' (data ++ (uv s.size ++ bytesOf s)).length cap') (data ++ (uv s.size ++ bytesOf s)) r') := by unfold Hid; simpa using ho'
  have HG : Hid (w.grownBy w2 r) := grow_trans HG1.out hg' (by
    rcases HR1.out with rfl | ⟨g, rfl, hg⟩
    · exact .inl rfl
    · exact .inr (.inr ⟨g, rfl, hg⟩))
  have HR : Hid (r' = r ∨ ∃ g, r' = some g ∧ w.heap.size ≤ g) := by
    rcases hr' with rfl | rfl
    · exact HR1.out
    · exact .inr ⟨_, rfl, HG1.out.size⟩
  obtain ⟨hcell1, hfz1⟩ := wat_cells (data := data) hcell hfz HNE.out HG.out
  clear ho' hg' hr' hn' hcell hfz
  go_wp2
  go_end0
  exact ⟨rfl, by simpa using wat_store HW.out HG.out HO2.out HR.out⟩

theorem wRaw (b : Nat) (data : List Nat) (r : Option Nat) (x : Value) (k : List Nat) (w : World) (h : WAt w b data r) (hx : BytesAt w x k) (hl : data.length + k.length ≤ 140737488355328) :
    Calls Try.prog 43 #[.pointer (some ⟨b, 0, none⟩), x] w fun e w' => e = .returned (.tuple #[]) ∧ WPost w w' b (data ++ k) r := by
  have HW : Hid (WAt w b data r) := h
  obtain ⟨dv, hcell, hfz, ho, hne⟩ := h
  have HO : Hid (Own w dv data r) := ho
  have HX : Hid (BytesAt w x k) := hx
  have HNE : Hid (r ≠ some b) := hne
  have hblt := cell_lt hcell
  clear ho hne hx
  go_enter Try.func43, Try.ntmps43
  go_wp2_with (at_builtin; refine wpList_append_row _ rfl _ _ 23 23 rfl Try.underlying23 _ _ data k r rfl rfl ?hOwn ?hByte ?hSrc ?hLen ?_)
  case hOwn => exact HO.out
  case hByte => exact HX.out.byte
  case hSrc => exact src_of Try.underlying23 HX.out
  intro v' w1 r' ho' hg' hr' hn'
  obtain ⟨a', cap', rfl⟩ := ho'.isSlice
  have HO2 : Hid (Own w1 (.slice a' (data ++ k).length cap') (data ++ k) r') := ho'
  have HG : Hid (w.grownBy w1 r) := hg'
  have HR : Hid (r' = r ∨ ∃ g, r' = some g ∧ w.heap.size ≤ g) := by
    rcases hr' with rfl | rfl
    · exact .inl rfl
    · exact .inr ⟨_, rfl, Nat.le_refl _⟩
  obtain ⟨hcell1, hfz1⟩ := wat_cells (data := data) hcell hfz HNE.out HG.out
  clear ho' hg' hr' hn' hcell hfz
  go_wp2
  go_end0
  exact ⟨rfl, by simpa using wat_store HW.out HG.out HO2.out HR.out⟩
end Go.Proofs.Ytbngedfpojnbjab
