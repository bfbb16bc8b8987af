import Derived.Test.YtjefbcphefckiacUh
import Derived.Lib.SliceRun
/-! Writers and Pack, beside the readers. -/
namespace Go.Proofs.Ytjefbcphefckiac
open Go.RowKit Plain
set_option linter.unusedVariables false

/-- The writer in block b has written data, which lies in block r. -/
def WAt (w : World) (b : Nat) (data : List Nat) (r : Option Nat) : Prop :=
  ∃ dv, w.cell? ⟨b, 0, none⟩ = some dv ∧ w.frozen? ⟨b, 0, none⟩ = false ∧ Own w dv data r ∧ r ≠ some b

/-- Of what was there only blocks b and r have turned. -/
structure Kept2 (w w' : World) (b : Nat) (r : Option Nat) : Prop where
  os : w'.os = w.os
  tape : w'.tape = w.tape
  output : w'.output = w.output
  size : w.heap.size ≤ w'.heap.size
  block : ∀ k, k < w.heap.size → k ≠ b → some k ≠ r → w'.heap[k]? = w.heap[k]?

def WPost (w w' : World) (b : Nat) (data : List Nat) (r : Option Nat) : Prop :=
  ∃ r', WAt w' b data r' ∧ Kept2 w w' b r ∧ (r' = r ∨ ∃ g, r' = some g ∧ w.heap.size ≤ g)

theorem WAt.lt {w : World} {b : Nat} {data : List Nat} {r : Option Nat} (h : WAt w b data r) : b < w.heap.size := by
  obtain ⟨dv, h1, _⟩ := h
  exact cell_lt h1

theorem WAt.byte {w : World} {b : Nat} {data : List Nat} {r : Option Nat} (h : WAt w b data r) : ∀ c ∈ data, c < 256 := by
  obtain ⟨dv, _, _, h1, _⟩ := h
  exact h1.1

theorem Kept2.refl (w : World) (b : Nat) (r : Option Nat) : Kept2 w w b r := ⟨rfl, rfl, rfl, Nat.le_refl _, fun _ _ _ _ => rfl⟩

theorem Kept2.of_grow {w w' : World} {b : Nat} {r : Option Nat} (h : w.grownBy w' r) : Kept2 w w' b r := ⟨h.os, h.tape, h.output, h.size, fun k hk _ hr => h.block k hk hr⟩

theorem Kept2.of_below {w w' : World} {b : Nat} {r : Option Nat} (h : Below w.heap.size w w') : Kept2 w w' b r := ⟨h.os, h.tape, h.output, h.size, fun k hk _ _ => h.block k hk⟩

theorem Kept2.trans {a m c : World} {b : Nat} {r r' : Option Nat} (h : Kept2 a m b r) (k : Kept2 m c b r') (hr : r' = r ∨ ∃ g, r' = some g ∧ a.heap.size ≤ g) : Kept2 a c b r :=
  ⟨k.os.trans h.os, k.tape.trans h.tape, k.output.trans h.output, Nat.le_trans h.size k.size, fun i hi hb hne => by
    rw [k.block i (Nat.lt_of_lt_of_le hi h.size) hb ?_]
    · exact h.block i hi hb hne
    · rcases hr with rfl | ⟨g, rfl, hg⟩
      · exact hne
      · simp only [ne_eq, Option.some.injEq]; omega⟩

theorem Kept2.below {w w' : World} {b : Nat} {r : Option Nat} {B : Nat} (h : Kept2 w w' b r) (hB : B ≤ w.heap.size) (hb : B ≤ b) (hr : ∀ g, r = some g → B ≤ g) : Below B w w' :=
  ⟨h.os, h.tape, h.output, h.size, fun k hk => h.block k (Nat.lt_of_lt_of_le hk hB) (by omega) (fun e => by have := hr k e.symm; omega)⟩

theorem WPost.on {a m c : World} {b : Nat} {e : List Nat} {r r1 : Option Nat} (h2 : Kept2 a m b r) (h3 : r1 = r ∨ ∃ g, r1 = some g ∧ a.heap.size ≤ g) (k : WPost m c b e r1) : WPost a c b e r := by
  obtain ⟨r2, k1, k2, k3⟩ := k
  refine ⟨r2, k1, h2.trans k2 h3, ?_⟩
  rcases k3 with rfl | ⟨g, rfl, hg⟩
  · exact h3
  · exact .inr ⟨g, rfl, Nat.le_trans h2.size hg⟩

theorem WAt.kept {w w' : World} {b : Nat} {data : List Nat} {r : Option Nat} (h : WAt w b data r) (hs : w.heap.size ≤ w'.heap.size) (h1 : w'.heap[b]? = w.heap[b]?) (h2 : ∀ g, r = some g → w'.heap[g]? = w.heap[g]?) : WAt w' b data r := by
  obtain ⟨dv, a1, a2, a3, a4⟩ := h
  refine ⟨dv, by rw [World.cell?_of_block (w := w) (a := ⟨b, 0, none⟩) h1]; exact a1, by rw [World.frozen?_of_block (w := w) (a := ⟨b, 0, none⟩) h1]; exact a2, ?_, a4⟩
  refine ⟨a3.1, ?_⟩
  rcases a3.2 with h0 | ⟨g, cap, rfl, rfl, hg, b1, b2, b3, b4, b5⟩
  · exact .inl h0
  · have hb := h2 g rfl
    refine .inr ⟨g, cap, rfl, rfl, Nat.lt_of_lt_of_le hg hs, b1, b2, fun j hj => ?_, fun j hj => ?_, fun j hj => ?_⟩
    · rw [World.frozen?_of_block (w := w) (a := ⟨g, j, none⟩) hb]; exact b3 j hj
    · rw [World.cell?_of_block (w := w) (a := ⟨g, j, none⟩) hb]; exact b4 j hj
    · rw [World.cell?_of_block (w := w) (a := ⟨g, j, none⟩) hb]; exact b5 j hj

theorem WAt.later {w w' : World} {b : Nat} {data : List Nat} {r : Option Nat} (h : WAt w b data r) (k : Below w.heap.size w w') : WAt w' b data r := by
  refine h.kept k.size (k.block b h.lt) (fun g hg => ?_)
  obtain ⟨dv, _, _, a3, _⟩ := h
  subst hg
  exact k.block g a3.lt

theorem WPost.of_below {w w' : World} {b : Nat} {data : List Nat} {r : Option Nat} (h : WAt w b data r) (k : Below w.heap.size w w') : WPost w w' b data r := ⟨r, h.later k, Kept2.of_below k, .inl rfl⟩

/-- What has been appended is stored. -/
theorem wat_store {w w1 : World} {b : Nat} {data data' : List Nat} {r r' : Option Nat} {v' : Value} (h : WAt w b data r) (hg : w.grownBy w1 r) (ho : Own w1 v' data' r') (hr : r' = r ∨ ∃ g, r' = some g ∧ w.heap.size ≤ g) :
    WPost w (w1.setCell ⟨b, 0, none⟩ v') b data' r := by
  have hb := h.lt
  obtain ⟨dv, a1, a2, a3, a4⟩ := h
  have hbl : w1.heap[b]? = w.heap[b]? := hg.block b hb (fun e => a4 e.symm)
  have hc1 : w1.cell? ⟨b, 0, none⟩ = some dv := by rw [World.cell?_of_block (w := w) (a := ⟨b, 0, none⟩) hbl]; exact a1
  have hf1 : w1.frozen? ⟨b, 0, none⟩ = false := by rw [World.frozen?_of_block (w := w) (a := ⟨b, 0, none⟩) hbl]; exact a2
  have hne : r' ≠ some b := by
    rcases hr with rfl | ⟨g, rfl, hg'⟩
    · exact a4
    · simp; omega
  have hset : w1.grownBy (w1.setCell ⟨b, 0, none⟩ v') (some b) := grow_setCells w1 b 0 [v']
  refine ⟨r', ⟨v', World.cell?_setCell_same _ _ _ hc1, ?_, ho.kept hset (.inr hne), hne⟩, ⟨hset.os.trans hg.os, hset.tape.trans hg.tape, hset.output.trans hg.output, Nat.le_trans hg.size hset.size, fun k hk hkb hkr => ?_⟩, hr⟩
  · have := World.frozen?_setCells b [v'] 0 w1 ⟨b, 0, none⟩
    rw [← hf1]; exact this
  · rw [hset.block k (Nat.lt_of_lt_of_le hk hg.size) (by simp; exact hkb)]
    exact hg.block k hk hkr

theorem wat_cells {w w1 : World} {b : Nat} {data : List Nat} {r : Option Nat} {dv : Value} (hc : w.cell? ⟨b, 0, none⟩ = some dv) (hf : w.frozen? ⟨b, 0, none⟩ = false) (hr : r ≠ some b) (hg : w.grownBy w1 r) :
    w1.cell? ⟨b, 0, none⟩ = some dv ∧ w1.frozen? ⟨b, 0, none⟩ = false := by
  have hbl : w1.heap[b]? = w.heap[b]? := hg.block b (cell_lt hc) (fun e => hr e.symm)
  exact ⟨by rw [World.cell?_of_block (w := w) (a := ⟨b, 0, none⟩) hbl]; exact hc, by rw [World.frozen?_of_block (w := w) (a := ⟨b, 0, none⟩) hbl]; exact hf⟩

theorem one_byte (c j : Nat) (h : j < [c].length) : (#[Value.int .u8 (c : Int)] : Array Value)[j]? = some (.int .u8 (([c].getD j 0 : Nat) : Int)) := by
  match j, h with
  | 0, _ => rfl

theorem wByte (b : Nat) (data : List Nat) (r : Option Nat) (c : Nat) (w : World) (h : WAt w b data r) (hc : c < 256) (hl : data.length + 1 ≤ 140737488355328) :
    Calls Try.prog 43 #[.pointer (some ⟨b, 0, none⟩), .int .u8 c] w fun e w' => e = .returned (.tuple #[]) ∧ WPost w w' b (data ++ [c]) r := by
  have HW : Hid (WAt w b data r) := h
  obtain ⟨dv, hcell, hfz, ho, hne⟩ := h
  have HO : Hid (Own w dv data r) := ho
  have HNE : Hid (r ≠ some b) := hne
  have hblt := cell_lt hcell
  clear ho hne
  go_enter Try.func43, Try.ntmps43
  go_wp2_with (at_builtin; refine wpList_append_row _ rfl _ _ 24 24 rfl Try.underlying24 _ _ data [c] r rfl rfl ?hOwn ?hByte ?hSrc ?hLen ?_)
  case hOwn => exact HO.out.later ((Below.refl _ _).alloc (Nat.le_refl _) _)
  case hSrc => exact src_one w c 24 5 Try.underlying24
  intro v' w1 r' ho' hg' hr' hn'
  obtain ⟨a', cap', rfl⟩ := ho'.isSlice
  have HO2 : Hid (Own w1 (.slice a' (data ++ [c]).length cap') (data ++ [c]) r') := ho'
  have HG : Hid (w.grownBy w1 r) := grow_trans (below_grow ((Below.refl _ _).alloc (Nat.le_refl _) _) r) hg' (.inl rfl)
  have HR : Hid (r' = r ∨ ∃ g, r' = some g ∧ w.heap.size ≤ g) := by
    rcases hr' with rfl | rfl
    · exact .inl rfl
    · exact .inr ⟨_, rfl, by simp⟩
  obtain ⟨hcell1, hfz1⟩ := wat_cells (data := data) hcell hfz HNE.out HG.out
  clear ho' hg' hr' hn' hcell hfz
  go_wp2
  go_end0
  exact ⟨rfl, by simpa using wat_store HW.out HG.out HO2.out HR.out⟩

theorem wUvarint (b : Nat) (data : List Nat) (r : Option Nat) (v : Nat) (w : World) (h : WAt w b data r) (hv : v < 18446744073709551616) (hl : data.length + 10 ≤ 140737488355328) :
    Calls Try.prog 44 #[.pointer (some ⟨b, 0, none⟩), .int .u64 v] w fun e w' => e = .returned (.tuple #[]) ∧ WPost w w' b (data ++ uv v) r := by
  have HW : Hid (WAt w b data r) := h
  obtain ⟨dv, hcell, hfz, ho, hne⟩ := h
  have HO : Hid (Own w dv data r) := ho
  have HNE : Hid (r ≠ some b) := hne
  have hblt := cell_lt hcell
  clear ho hne
  go_enter Try.func44, Try.ntmps44
  go_wp2_with fail
  refine (appendUvarint dv data r v _ hv HO.out hl).mono ?_
  rintro e w1 ⟨v', r', rfl, ho', hg', hr', hn'⟩
  obtain ⟨a', cap', rfl⟩ := ho'.isSlice
  have HO2 : Hid (Own w1 (.slice a' (data ++ uv v).length cap') (data ++ uv v) r') := ho'
  have HG : Hid (w.grownBy w1 r) := hg'
  have HR : Hid (r' = r ∨ ∃ g, r' = some g ∧ w.heap.size ≤ g) := hr'
  obtain ⟨hcell1, hfz1⟩ := wat_cells (data := data) hcell hfz HNE.out HG.out
  clear ho' hg' hr' hn' hcell hfz
  go_wp2
  go_end0
  exact ⟨rfl, by simpa using wat_store HW.out HG.out HO2.out HR.out⟩

/-- A number of n bytes, the highest first. -/
def be : Nat → Nat → List Nat
  | 0, _ => []
  | n + 1, v => (v / 2 ^ (8 * n) % 256) :: be n v

theorem be_len (v : Nat) : ∀ n, (be n v).length = n
  | 0 => rfl
  | n + 1 => by simp [be, be_len v n]

theorem be_byte (v : Nat) : ∀ n, ∀ c ∈ be n v, c < 256
  | 0, c, h => by simp [be] at h
  | n + 1, c, h => by
    simp only [be, List.mem_cons] at h
    rcases h with rfl | h
    · omega
    · exact be_byte v n c h

set_option maxRecDepth 1000000 in
theorem wFixed (b : Nat) (data : List Nat) (r : Option Nat) (v n : Nat) (w : World) (h : WAt w b data r) (hv : v < 18446744073709551616) (hn : n ≤ 8) (hl : data.length + 8 ≤ 140737488355328) :
    Calls Try.prog 56 #[.pointer (some ⟨b, 0, none⟩), .int .u64 v, .int .i64 n] w fun e w' => e = .returned (.tuple #[]) ∧ WPost w w' b (data ++ be n v) r := by
  have HW : Hid (WAt w b data r) := h
  clear h
  go_enter Try.func56, Try.ntmps56
  go_wp2
  go_loopw [2] (fun i wr => ∃ (k : Nat) (d : List Nat), k ≤ n ∧ i = .int .i64 k ∧ be n v = d ++ be k v ∧ WPost w wr b (data ++ d) r) (fun i _ => (intOf i).toNat)
  case atStart => exact ⟨n, [], by omega, rfl, rfl, by simpa using WPost.of_below HW.out (Below.refl _ _)⟩
  case round =>
    obtain ⟨k, d, hk, rfl, hd, hp⟩ := hrel
    have HP : Hid (WPost w wr b (data ++ d) r) := hp
    have HD : Hid (be n v = d ++ be k v) := hd
    have hdl : d.length + k ≤ 8 := by
      have := congrArg List.length hd
      rw [be_len, List.length_append, be_len] at this
      omega
    clear hp hd
    by_cases hk0 : k = 0
    · subst hk0
      go_wp2
      go_end0
      refine ⟨rfl, ?_⟩
      rw [HD.out]
      simpa [be] using HP.out
    · obtain ⟨m, rfl⟩ : ∃ m, k = m + 1 := ⟨k - 1, by omega⟩
      obtain ⟨c, hc⟩ : ∃ c, v / 2 ^ (8 * m) % 256 = c := ⟨_, rfl⟩
      have hcc : (v : Int) / 2 ^ (8 * m) % 256 = (c : Int) := by rw [← hc]; simp
      have hc256 : c < 256 := by omega
      have HD2 : Hid (be n v = (d ++ [c]) ++ be m v) := by unfold Hid; rw [HD.out, be, hc]; simp
      have hm8 : m ≤ 7 := by omega
      clear HD hc
      obtain ⟨r1, hw1, hk1, hr1⟩ := HP.out
      have HW1 : Hid (WAt wr b (data ++ d) r1) := hw1
      have HK1 : Hid (Kept2 w wr b r) := hk1
      have HR1 : Hid (r1 = r ∨ ∃ g, r1 = some g ∧ w.heap.size ≤ g) := hr1
      clear hw1 hk1 hr1 HP
      go_wp2_with fail
      refine (wByte b (data ++ d) r1 c wr HW1.out hc256 (by simp; omega)).mono ?_
      rintro e w1 ⟨rfl, hp1⟩
      have HP1 : Hid (WPost w w1 b (data ++ (d ++ [c])) r) := WPost.on HK1.out HR1.out (by rw [← List.append_assoc]; exact hp1)
      clear hp1
      go_wp2
      go_roundw
      case rel => exact ⟨m, d ++ [c], by omega, by go_num, HD2.out, HP1.out⟩
      case measure => simp [intOf]

theorem wU32 (b : Nat) (data : List Nat) (r : Option Nat) (v : Nat) (w : World) (h : WAt w b data r) (hv : v < 4294967296) (hl : data.length + 8 ≤ 140737488355328) :
    Calls Try.prog 45 #[.pointer (some ⟨b, 0, none⟩), .int .u32 v] w fun e w' => e = .returned (.tuple #[]) ∧ WPost w w' b (data ++ be 4 v) r := by
  have HW : Hid (WAt w b data r) := h
  clear h
  go_enter Try.func45, Try.ntmps45
  go_wp2_with fail
  refine (wFixed b data r v 4 _ HW.out (by omega) (by omega) hl).mono ?_
  rintro e w1 ⟨rfl, hp⟩
  have HP : Hid (WPost w w1 b (data ++ be 4 v) r) := hp
  clear hp
  go_wp2
  go_end0
  exact ⟨rfl, HP.out⟩

theorem wU64 (b : Nat) (data : List Nat) (r : Option Nat) (v : Nat) (w : World) (h : WAt w b data r) (hv : v < 18446744073709551616) (hl : data.length + 8 ≤ 140737488355328) :
    Calls Try.prog 46 #[.pointer (some ⟨b, 0, none⟩), .int .u64 v] w fun e w' => e = .returned (.tuple #[]) ∧ WPost w w' b (data ++ be 8 v) r := by
  have HW : Hid (WAt w b data r) := h
  clear h
  go_enter Try.func46, Try.ntmps46
  go_wp2_with fail
  refine (wFixed b data r v 8 _ HW.out (by omega) (by omega) hl).mono ?_
  rintro e w1 ⟨rfl, hp⟩
  have HP : Hid (WPost w w1 b (data ++ be 8 v) r) := hp
  clear hp
  go_wp2
  go_end0
  exact ⟨rfl, HP.out⟩

theorem wText (b : Nat) (data : List Nat) (r : Option Nat) (s : ByteArray) (w : World) (h : WAt w b data r) (hl : data.length + s.size + 10 ≤ 140737488355328) :
    Calls Try.prog 47 #[.pointer (some ⟨b, 0, none⟩), .string s] w fun e w' => e = .returned (.tuple #[]) ∧ WPost w w' b (data ++ (uv s.size ++ bytesOf s)) r := by
  have HW : Hid (WAt w b data r) := h
  obtain ⟨dv, hcell, hfz, ho, hne⟩ := h
  have HO : Hid (Own w dv data r) := ho
  have HNE : Hid (r ≠ some b) := hne
  have hblt := cell_lt hcell
  have h10 := uv_len10 (v := s.size) (by omega)
  clear ho hne
  go_enter Try.func47, Try.ntmps47
  go_wp2_with fail
  refine (appendUvarint dv data r s.size _ (by omega) HO.out (by omega)).mono ?_
  rintro e w1 ⟨v1, r1, rfl, ho1, hg1, hr1, hn1⟩
  have HO1 : Hid (Own w1 v1 (data ++ uv s.size) r1) := ho1
  have HG1 : Hid (w.grownBy w1 r) := hg1
  have HR1 : Hid (r1 = r ∨ ∃ g, r1 = some g ∧ w.heap.size ≤ g) := hr1
  clear ho1 hg1 hr1 hn1
  go_wp2_with (at_builtin; refine wpList_append_row _ rfl _ _ 24 9 rfl Try.underlying24 _ _ (data ++ uv s.size) (bytesOf s) r1 rfl rfl ?hOwn ?hByte ?hSrc ?hLen ?_)
  case hOwn => exact HO1.out
  case hByte => exact bytesOf_byte s
  case hSrc => exact src_str Try.underlying9
  case hLen => rw [bytesOf_len]; simp; omega
  intro v' w2 r' ho' hg' hr' hn'
  obtain ⟨a', cap', rfl⟩ := ho'.isSlice
  have HO2 : Hid (Own w2 (.slice a' (data ++ (uv s.size ++ bytesOf s)).length cap') (data ++ (uv s.size ++ bytesOf s)) r') := by unfold Hid; simpa using ho'
  have HG : Hid (w.grownBy w2 r) := grow_trans HG1.out hg' (by
    rcases HR1.out with rfl | ⟨g, rfl, hg⟩
    · exact .inl rfl
    · exact .inr (.inr ⟨g, rfl, hg⟩))
  have HR : Hid (r' = r ∨ ∃ g, r' = some g ∧ w.heap.size ≤ g) := by
    rcases hr' with rfl | rfl
    · exact HR1.out
    · exact .inr ⟨_, rfl, HG1.out.size⟩
  obtain ⟨hcell1, hfz1⟩ := wat_cells (data := data) hcell hfz HNE.out HG.out
  clear ho' hg' hr' hn' hcell hfz
  go_wp2
  go_end0
  exact ⟨rfl, by simpa using wat_store HW.out HG.out HO2.out HR.out⟩

theorem wBytes (b : Nat) (data : List Nat) (r : Option Nat) (w : World) (h : WAt w b data r) (hl : data.length ≤ 140737488355328) :
    Calls Try.prog 25 #[.pointer (some ⟨b, 0, none⟩)] w fun e w' => ∃ v' r', e = .returned v' ∧ Own w' v' data r' ∧ Below w.heap.size w w' ∧ (∀ g, r' = some g → w.heap.size ≤ g) := by
  obtain ⟨dv, hcell, hfz, ho, hne⟩ := h
  have HO : Hid (BytesAt w dv data) := ho.bytes
  clear ho hne
  go_enter Try.func25, Try.ntmps25
  go_wp2_with fail
  refine (clone dv data w HO.out hl).mono ?_
  rintro e w1 ⟨v', r', rfl, ho', hb', hr'⟩
  have HO2 : Hid (Own w1 v' data r') := ho'
  have HB : Hid (Below w.heap.size w w1) := hb'
  have HR : Hid (∀ g, r' = some g → w.heap.size ≤ g) := hr'
  clear ho' hb' hr'
  go_wp2
  go_ret
  exact ⟨v', r', rfl, HO2.out, HB.out, HR.out⟩

/-- Its bytes. -/
def It.bytes (x : It) : List Nat :=
  if x.k = 0 then [x.n % 256] else if x.k = 1 ∨ x.k = 2 then uv x.n else if x.k = 3 then be 4 (x.n % 4294967296) else if x.k = 4 then be 8 x.n else if x.k = 5 then uv x.s.size ++ bytesOf x.s else []

theorem It.bytes_len (x : It) (hn : x.n < 18446744073709551616) (hs : x.s.size < 18446744073709551616) : x.bytes.length ≤ x.s.size + 10 := by
  unfold It.bytes
  have h1 := uv_len10 (show x.n < 2 ^ 64 from hn)
  have h2 := uv_len10 (show x.s.size < 2 ^ 64 from hs)
  have h3 := be_len (x.n % 4294967296) 4
  have h4 := be_len x.n 8
  have h5 := bytesOf_len x.s
  split
  · simp
  split
  · omega
  split
  · omega
  split
  · omega
  split
  · rw [List.length_append]; omega
  · simp

theorem witemAny (b : Nat) (data : List Nat) (r : Option Nat) (x : It) (w : World) (h : WAt w b data r) (hn : x.n < 18446744073709551616) (hl : data.length + x.s.size + 10 ≤ 140737488355328) :
    Calls Try.prog 24 #[.pointer (some ⟨b, 0, none⟩), .agg #[.int .i64 x.k, .int .u64 x.n, .string x.s]] w fun e w' => e = .returned (.tuple #[]) ∧ WPost w w' b (data ++ x.bytes) r := by
  obtain ⟨k, n, s⟩ := x
  simp only at hn hl
  have HB : Hid (Below w.heap.size w (w.alloc (.cells #[.int .i64 k, .int .u64 n, .string s] 32))) := (Below.refl _ _).alloc (Nat.le_refl _) _
  have HW : Hid (WAt (w.alloc (.cells #[.int .i64 k, .int .u64 n, .string s] 32)) b data r) := h.later HB.out
  have HK : Hid (Kept2 w (w.alloc (.cells #[.int .i64 k, .int .u64 n, .string s] 32)) b r) := Kept2.of_below HB.out
  clear h
  by_cases k0 : k = 0
  · subst k0
    have hc : ((n : Nat) : Int) % 256 = ((n % 256 : Nat) : Int) := by omega
    have HE : Hid (It.bytes ⟨0, n, s⟩ = [n % 256]) := by unfold Hid It.bytes; simp
    generalize hm : n % 256 = m at hc HE
    go_enter Try.func24, Try.ntmps24
    go_wp2_with fail
    refine (wByte b data r m _ HW.out (by omega) (by omega)).mono ?_
    rintro e w1 ⟨rfl, hp⟩
    have HP : Hid (WPost w w1 b (data ++ [m]) r) := WPost.on HK.out (.inl rfl) hp
    clear hp
    go_wp2
    go_end0
    exact ⟨rfl, by rw [HE.out]; exact HP.out⟩
  by_cases k12 : k = 1 ∨ k = 2
  · have HE : Hid (It.bytes ⟨k, n, s⟩ = uv n) := by unfold Hid It.bytes; simp [k0, k12]
    rcases k12 with rfl | rfl
    all_goals
      go_enter Try.func24, Try.ntmps24
      go_wp2_with fail
      refine (wUvarint b data r n _ HW.out hn (by omega)).mono ?_
      rintro e w1 ⟨rfl, hp⟩
      have HP : Hid (WPost w w1 b (data ++ uv n) r) := WPost.on HK.out (.inl rfl) hp
      clear hp
      go_wp2
      go_end0
      exact ⟨rfl, by rw [HE.out]; exact HP.out⟩
  by_cases k3 : k = 3
  · subst k3
    have hc : ((n : Nat) : Int) % 4294967296 = ((n % 4294967296 : Nat) : Int) := by omega
    have HE : Hid (It.bytes ⟨3, n, s⟩ = be 4 (n % 4294967296)) := by unfold Hid It.bytes; simp
    generalize hm : n % 4294967296 = m at hc HE
    go_enter Try.func24, Try.ntmps24
    go_wp2_with fail
    refine (wU32 b data r m _ HW.out (by omega) (by omega)).mono ?_
    rintro e w1 ⟨rfl, hp⟩
    have HP : Hid (WPost w w1 b (data ++ be 4 m) r) := WPost.on HK.out (.inl rfl) hp
    clear hp
    go_wp2
    go_end0
    exact ⟨rfl, by rw [HE.out]; exact HP.out⟩
  by_cases k4 : k = 4
  · subst k4
    have HE : Hid (It.bytes ⟨4, n, s⟩ = be 8 n) := by unfold Hid It.bytes; simp
    go_enter Try.func24, Try.ntmps24
    go_wp2_with fail
    refine (wU64 b data r n _ HW.out hn (by omega)).mono ?_
    rintro e w1 ⟨rfl, hp⟩
    have HP : Hid (WPost w w1 b (data ++ be 8 n) r) := WPost.on HK.out (.inl rfl) hp
    clear hp
    go_wp2
    go_end0
    exact ⟨rfl, by rw [HE.out]; exact HP.out⟩
  by_cases k5 : k = 5
  · subst k5
    have HE : Hid (It.bytes ⟨5, n, s⟩ = uv s.size ++ bytesOf s) := by unfold Hid It.bytes; simp
    go_enter Try.func24, Try.ntmps24
    go_wp2_with fail
    refine (wText b data r s _ HW.out (by omega)).mono ?_
    rintro e w1 ⟨rfl, hp⟩
    have HP : Hid (WPost w w1 b (data ++ (uv s.size ++ bytesOf s)) r) := WPost.on HK.out (.inl rfl) (by simpa using hp)
    clear hp
    go_wp2
    go_end0
    exact ⟨rfl, by rw [HE.out]; exact HP.out⟩
  have k1 : k ≠ 1 := fun h => k12 (.inl h)
  have k2 : k ≠ 2 := fun h => k12 (.inr h)
  have e0 : (k == 0) = false := by simpa using k0
  have e1 : (k == 1) = false := by simpa using k1
  have e2 : (k == 2) = false := by simpa using k2
  have e3 : (k == 3) = false := by simpa using k3
  have e4 : (k == 4) = false := by simpa using k4
  have e5 : (k == 5) = false := by simpa using k5
  have HE : Hid (It.bytes ⟨k, n, s⟩ = []) := by unfold Hid It.bytes; simp [k0, k1, k2, k3, k4, k5]
  clear k0 k1 k2 k3 k4 k5 k12
  go_enter Try.func24, Try.ntmps24
  go_wp2
  go_end0
  refine ⟨rfl, ?_⟩
  rw [HE.out, List.append_nil]
  exact ⟨r, HW.out, HK.out, .inl rfl⟩

def flat : List It → List Nat
  | [] => []
  | x :: r => x.bytes ++ flat r

def bulk : List It → Nat
  | [] => 0
  | x :: r => x.s.size + 10 + bulk r

theorem flat_snoc (st : List It) (x : It) : flat (st ++ [x]) = flat st ++ x.bytes := by
  induction st with
  | nil => simp [flat]
  | cons y r ih => simp [flat, ih]

theorem take_snoc_it (st : List It) (j : Nat) (h : j < st.length) : st.take (j + 1) = st.take j ++ [st.getD j It.none] := by
  rw [List.take_succ_eq_append_getElem h]
  simp [h]

theorem flat_load (st : List It) (j : Nat) (hn : ∀ x ∈ st, x.n < 18446744073709551616 ∧ x.s.size < 18446744073709551616) (h : j < st.length) : (flat (st.take j)).length + (st.getD j It.none).s.size + 10 ≤ bulk st := by
  induction st generalizing j with
  | nil => simp at h
  | cons y r ih =>
    cases j with
    | zero => simp [flat, bulk]
    | succ j =>
      have := ih j (fun x hx => hn x (by simp [hx])) (by simpa using h)
      have hl := y.bytes_len (hn y (by simp)).1 (hn y (by simp)).2
      simp [flat, bulk]
      simp at this
      omega

theorem flat_all (st : List It) (hn : ∀ x ∈ st, x.n < 18446744073709551616 ∧ x.s.size < 18446744073709551616) : (flat st).length ≤ bulk st := by
  induction st with
  | nil => simp [flat]
  | cons y r ih =>
    have := ih (fun x hx => hn x (by simp [hx]))
    have hl := y.bytes_len (hn y (by simp)).1 (hn y (by simp)).2
    simp [flat, bulk]
    omega

def packed (st : List It) : List Nat := if st.all It.fits then flat st else []

def packErr (st : List It) : Int := if st.all It.fits then 0 else 12

theorem all_snoc (st : List It) (x : It) : (st ++ [x]).all It.fits = (st.all It.fits && x.fits) := by simp

theorem packed_bad (st : List It) (k : Nat) (h : k < st.length) (hx : (st.getD k It.none).fits = false) : packed st = [] ∧ packErr st = 12 := by
  have : st.all It.fits = false := by
    rw [List.all_eq_false]
    exact ⟨st.getD k It.none, by simp [h], by rw [hx]; simp⟩
  simp [packed, packErr, this]

theorem packed_good (st : List It) (h : st.all It.fits = true) : packed st = flat st ∧ packErr st = 0 := by simp [packed, packErr, h]

theorem newWr (w : World) : Calls Try.prog 23 #[] w fun e w' => e = .returned (.pointer (some ⟨w.heap.size, 0, none⟩)) ∧ WAt w' w.heap.size [] none ∧ Below w.heap.size w w' ∧ w'.heap.size = w.heap.size + 1 := by
  go_enter Try.func23, Try.ntmps23
  go_wp2
  go_ret
  exact ⟨rfl, ⟨_, by simp, by simp, Own.nil _, by simp⟩, (Below.refl _ _).alloc (Nat.le_refl _) _, by simp⟩

set_option maxHeartbeats 1000000 in
theorem packAny (v : Value) (st : List It) (w : World) (h : ItemsAt w v st) (hl : bulk st ≤ 140737488351232) :
    Calls Try.prog 7 #[v] w fun e w' => ∃ v' r', e = .returned (.tuple #[v', .int .i64 (packErr st)]) ∧ Own w' v' (packed st) r' ∧ (∀ q, r' = some q → w.heap.size ≤ q) ∧ Below w.heap.size w w' := by
  obtain ⟨a, cap, rfl, hcl, hsn, hcells⟩ := h
  unfold maxLen at hcl
  have HC : Hid (st ≠ [] → ∃ b off, a = some ⟨b, off, none⟩ ∧ ∀ j, j < st.length → w.cell? ⟨b, off + j * 3, none⟩ = some (.int .i64 (st.getD j It.none).k) ∧ w.cell? ⟨b, off + j * 3 + 1, none⟩ = some (.int .u64 ((st.getD j It.none).n : Int)) ∧ w.cell? ⟨b, off + j * 3 + 2, none⟩ = some (.string (st.getD j It.none).s)) := hcells
  have HSN : Hid (∀ x ∈ st, x.n < 18446744073709551616 ∧ x.s.size < 18446744073709551616) := hsn
  clear hcells hsn
  go_enter Try.func7, Try.ntmps7
  go_wp2_with fail
  refine (newWr w).mono ?_
  rintro e w0 ⟨rfl, hw0, hb0, hs0⟩
  have HW0 : Hid (WAt w0 w.heap.size [] none) := hw0
  have HB0 : Hid (Below w.heap.size w w0) := hb0
  obtain ⟨B, hB⟩ : ∃ B, B = w.heap.size := ⟨_, rfl⟩
  rw [← hB] at HW0 HB0 ⊢
  have HBB : Hid (B = w.heap.size) := hB
  clear hw0 hb0 hs0 hB
  go_wp2
  go_loopw [10] (fun i wr => ∃ (k : Nat) (q : Option Nat), k ≤ st.length ∧ i = .int .i64 k ∧ (st.take k).all It.fits = true ∧ WAt wr B (flat (st.take k)) q ∧ (∀ g, q = some g → B ≤ g) ∧ Below B w wr) (fun i _ => st.length - (intOf i).toNat)
  case atStart => exact ⟨0, none, by omega, rfl, by simp, HW0.out, by simp, HB0.out⟩
  case round =>
    obtain ⟨k, q, hk, rfl, hall, hwa, hq, hbl⟩ := hrel
    have HA : Hid ((st.take k).all It.fits = true) := hall
    have HWA : Hid (WAt wr B (flat (st.take k)) q) := hwa
    have HQ : Hid (∀ g, q = some g → B ≤ g) := hq
    have HBL : Hid (Below B w wr) := hbl
    clear hall hwa hq hbl HW0 HB0
    by_cases hlt : k < st.length
    · have hne : st ≠ [] := by rintro rfl; simp at hlt
      obtain ⟨b, off, rfl, hc⟩ := HC.out hne
      obtain ⟨c0, d1, d2⟩ := hc k hlt
      have HT : Hid (flat (st.take (k + 1)) = flat (st.take k) ++ (st.getD k It.none).bytes) := by unfold Hid; rw [take_snoc_it st k hlt, flat_snoc]
      have HTA : Hid ((st.getD k It.none).fits = true → (st.take (k + 1)).all It.fits = true) := fun hx => by rw [take_snoc_it st k hlt, all_snoc, HA.out, hx]; rfl
      have HTB : Hid ((st.getD k It.none).fits = false → packed st = [] ∧ packErr st = 12) := fun hx => packed_bad st k hlt hx
      have HL : Hid ((flat (st.take k)).length + (st.getD k It.none).s.size + 10 ≤ 140737488355328) := by
        have := flat_load st k HSN.out hlt
        unfold Hid; omega
      have HN : Hid ((st.getD k It.none).n < 18446744073709551616) := (HSN.out _ (by simp [hlt])).1
      generalize st.getD k It.none = x at c0 d1 d2 HT HTA HTB HL HN
      obtain ⟨xk, xn, xs⟩ := x
      have hcb : ∀ u v, w.cell? ⟨b, u, none⟩ = some v → wr.cell? ⟨b, u, none⟩ = some v := fun u v h => by
        rw [HBL.out.cell (p := ⟨b, u, none⟩) (by have := cell_lt h; rw [HBB.out]; exact this)]; exact h
      have c0' := hcb _ _ c0
      have d1' := hcb _ _ d1
      have d2' := hcb _ _ d2
      clear c0 d1 d2 hc hne hcb
      go_wp2_with fail
      refine (fitsAny ⟨xk, xn, xs⟩ _).mono ?_
      rintro e w1 ⟨rfl, hb1⟩
      have HB1 : Hid (Below wr.heap.size wr w1) := below_on ((Below.refl _ _).alloc (Nat.le_refl _) _) hb1
      have x0 : w1.cell? ⟨wr.heap.size, 0, none⟩ = some (.int .i64 xk) := by rw [hb1.cell (p := ⟨_, _, none⟩) (by simp)]; simp
      have x1 : w1.cell? ⟨wr.heap.size, 1, none⟩ = some (.int .u64 xn) := by rw [hb1.cell (p := ⟨_, _, none⟩) (by simp)]; simp
      have x2 : w1.cell? ⟨wr.heap.size, 2, none⟩ = some (.string xs) := by rw [hb1.cell (p := ⟨_, _, none⟩) (by simp)]; simp
      have HBR : Hid (B ≤ wr.heap.size) := by have := HBL.out.size; have := HBB.out; unfold Hid; omega
      clear c0' d1' d2' hb1
      cases hfit : It.fits ⟨xk, xn, xs⟩ with
      | true =>
        go_wp2_with fail
        refine (witemAny B _ q ⟨xk, xn, xs⟩ w1 (HWA.out.later HB1.out) HN.out HL.out).mono ?_
        rintro e w2 ⟨rfl, q2, hw2, hk2, hq2⟩
        have HW2 : Hid (WAt w2 B (flat (st.take (k + 1))) q2) := by unfold Hid; rw [HT.out]; exact hw2
        have HQ2 : Hid (∀ g, q2 = some g → B ≤ g) := fun g hg => by
          rcases hq2 with rfl | ⟨g', rfl, h⟩
          · exact HQ.out g hg
          · have := HB1.out.size
            have := HBR.out
            simp at hg; omega
        have HBL2 : Hid (Below B w w2) := (HBL.out.trans (HB1.out.mono HBR.out)).trans (hk2.below (by have := HB1.out.size; have := HBR.out; omega) (Nat.le_refl _) HQ.out)
        have HA2 : Hid ((st.take (k + 1)).all It.fits = true) := HTA.out hfit
        clear hw2 hk2 hq2 x0 x1 x2 hfit
        go_wp2
        go_roundw
        case rel => exact ⟨k + 1, q2, by omega, by go_num, HA2.out, HW2.out, HQ2.out, HBL2.out⟩
        case measure => simp [intOf]; omega
      | false =>
        obtain ⟨hp1, hp2⟩ := HTB.out hfit
        have HP : Hid (packed st = [] ∧ packErr st = 12) := ⟨hp1, hp2⟩
        have HBL2 : Hid (Below B w w1) := HBL.out.trans (HB1.out.mono HBR.out)
        clear hp1 hp2 hfit x0 x1 x2
        go_wp2
        go_ret2
        exact ⟨.slice none 0 0, none, by rw [HP.out.2]; rfl, by rw [HP.out.1]; exact Own.nil _, by simp, by rw [← HBB.out]; exact HBL2.out⟩
    · obtain rfl : k = st.length := by omega
      have HP : Hid (packed st = flat st ∧ packErr st = 0) := packed_good st (by have := HA.out; rwa [List.take_length] at this)
      have HWF : Hid (WAt wr B (flat st) q) := by have := HWA.out; rwa [List.take_length] at this
      have HLF : Hid ((flat st).length ≤ 140737488355328) := by have := flat_all st HSN.out; unfold Hid; omega
      clear HC HWA HA
      go_wp2_with fail
      refine (wBytes B _ q wr HWF.out HLF.out).mono ?_
      rintro e w2 ⟨v2, r2, rfl, ho2, hb2, hr2⟩
      have H2 : Hid (Own w2 v2 (flat st) r2) := ho2
      have HR2 : Hid (∀ g, r2 = some g → B ≤ g) := fun g hg => by have := hr2 g hg; have := HBL.out.size; have := HBB.out; omega
      have HB2 : Hid (Below B w w2) := HBL.out.trans (hb2.mono (by have := HBL.out.size; have := HBB.out; omega))
      clear ho2 hb2 hr2
      go_wp2
      go_ret2
      exact ⟨v2, r2, by rw [HP.out.2]; rfl, by rw [HP.out.1]; exact H2.out, by rw [← HBB.out]; exact HR2.out, by rw [← HBB.out]; exact HB2.out⟩
end Go.Proofs.Ytjefbcphefckiac
