import Derived.Test.YtklfmgkfcacfkaaUv
import Derived.Test.YtklfmgkfcacfkaaTkn
import Derived.Lib.SliceRun
namespace Go.Proofs.Ytklfmgkfcacfkaa
open Go.RowKit Plain
set_option linter.unusedVariables false


/-- The writer in block b has written data, which lies in block r. -/
def WAt (w : World) (b : Nat) (data : List Nat) (r : Option Nat) : Prop :=
  ∃ dv, w.cell? ⟨b, 0, none⟩ = some dv ∧ w.frozen? ⟨b, 0, none⟩ = false ∧ Own w dv data r ∧ r ≠ some b

/-- Of what was there only blocks b and r have turned. -/
structure Kept2 (w w' : World) (b : Nat) (r : Option Nat) : Prop where
  os : w'.os = w.os
  tape : w'.tape = w.tape
  output : w'.output = w.output
  size : w.heap.size ≤ w'.heap.size
  block : ∀ k, k < w.heap.size → k ≠ b → some k ≠ r → w'.heap[k]? = w.heap[k]?

def WPost (w w' : World) (b : Nat) (data : List Nat) (r : Option Nat) : Prop :=
  ∃ r', WAt w' b data r' ∧ Kept2 w w' b r ∧ (r' = r ∨ ∃ g, r' = some g ∧ w.heap.size ≤ g)

theorem WAt.lt {w : World} {b : Nat} {data : List Nat} {r : Option Nat} (h : WAt w b data r) : b < w.heap.size := by
  obtain ⟨dv, h1, _⟩ := h
  exact cell_lt h1
theorem WAt.byte {w : World} {b : Nat} {data : List Nat} {r : Option Nat} (h : WAt w b data r) : ∀ c ∈ data, c < 256 := by
  obtain ⟨dv, _, _, h1, _⟩ := h
  exact h1.1

theorem Kept2.refl (w : World) (b : Nat) (r : Option Nat) : Kept2 w w b r := ⟨rfl, rfl, rfl, Nat.le_refl _, fun _ _ _ _ => rfl⟩
theorem Kept2.of_grow {w w' : World} {b : Nat} {r : Option Nat} (h : w.grownBy w' r) : Kept2 w w' b r := ⟨h.os, h.tape, h.output, h.size, fun k hk _ hr => h.block k hk hr⟩
theorem Kept2.of_below {w w' : World} {b : Nat} {r : Option Nat} (h : Below w.heap.size w w') : Kept2 w w' b r := ⟨h.os, h.tape, h.output, h.size, fun k hk _ _ => h.block k hk⟩
theorem Kept2.trans {a m c : World} {b : Nat} {r r' : Option Nat} (h : Kept2 a m b r) (k : Kept2 m c b r') (hr : r' = r ∨ ∃ g, r' = some g ∧ a.heap.size ≤ g) : Kept2 a c b r :=
  ⟨k.os.trans h.os, k.tape.trans h.tape, k.output.trans h.output, Nat.le_trans h.size k.size, fun i hi hb hne => by
    rw [k.block i (Nat.lt_of_lt_of_le hi h.size) hb ?_]
    · exact h.block i hi hb hne
    · rcases hr with rfl | ⟨g, rfl, hg⟩
      · exact hne
      · simp only [ne_eq, Option.some.injEq]; omega⟩
theorem Kept2.below {w w' : World} {b : Nat} {r : Option Nat} {B : Nat} (h : Kept2 w w' b r) (hB : B ≤ w.heap.size) (hb : B ≤ b) (hr : ∀ g, r = some g → B ≤ g) : Below B w w' :=
  ⟨h.os, h.tape, h.output, h.size, fun k hk => h.block k (Nat.lt_of_lt_of_le hk hB) (by omega) (fun e => by have := hr k e.symm; omega)⟩

theorem WPost.on {a m c : World} {b : Nat} {e : List Nat} {r r1 : Option Nat} (h2 : Kept2 a m b r) (h3 : r1 = r ∨ ∃ g, r1 = some g ∧ a.heap.size ≤ g) (k : WPost m c b e r1) : WPost a c b e r := by
  obtain ⟨r2, k1, k2, k3⟩ := k
  refine ⟨r2, k1, h2.trans k2 h3, ?_⟩
  rcases k3 with rfl | ⟨g, rfl, hg⟩
  · exact h3
  · exact .inr ⟨g, rfl, Nat.le_trans h2.size hg⟩

theorem WAt.kept {w w' : World} {b : Nat} {data : List Nat} {r : Option Nat} (h : WAt w b data r) (hs : w.heap.size ≤ w'.heap.size) (h1 : w'.heap[b]? = w.heap[b]?) (h2 : ∀ g, r = some g → w'.heap[g]? = w.heap[g]?) : WAt w' b data r := by
  obtain ⟨dv, a1, a2, a3, a4⟩ := h
  refine ⟨dv, by rw [World.cell?_of_block (w := w) (a := ⟨b, 0, none⟩) h1]; exact a1, by rw [World.frozen?_of_block (w := w) (a := ⟨b, 0, none⟩) h1]; exact a2, ?_, a4⟩
  refine ⟨a3.1, ?_⟩
  rcases a3.2 with h0 | ⟨g, cap, rfl, rfl, hg, b1, b2, b3, b4, b5⟩
  · exact .inl h0
  · have hb := h2 g rfl
    refine .inr ⟨g, cap, rfl, rfl, Nat.lt_of_lt_of_le hg hs, b1, b2, fun j hj => ?_, fun j hj => ?_, fun j hj => ?_⟩
    · rw [World.frozen?_of_block (w := w) (a := ⟨g, j, none⟩) hb]; exact b3 j hj
    · rw [World.cell?_of_block (w := w) (a := ⟨g, j, none⟩) hb]; exact b4 j hj
    · rw [World.cell?_of_block (w := w) (a := ⟨g, j, none⟩) hb]; exact b5 j hj

theorem WAt.later {w w' : World} {b : Nat} {data : List Nat} {r : Option Nat} (h : WAt w b data r) (k : Below w.heap.size w w') : WAt w' b data r := by
  refine h.kept k.size (k.block b h.lt) (fun g hg => ?_)
  obtain ⟨dv, _, _, a3, _⟩ := h
  subst hg
  exact k.block g a3.lt

theorem WPost.of_below {w w' : World} {b : Nat} {data : List Nat} {r : Option Nat} (h : WAt w b data r) (k : Below w.heap.size w w') : WPost w w' b data r := ⟨r, h.later k, Kept2.of_below k, .inl rfl⟩

theorem Own.isSlice {w : World} {v : Value} {l : List Nat} {r : Option Nat} (h : Own w v l r) : ∃ a cap, v = .slice a l.length cap := by
  obtain ⟨a, cap, e, _⟩ := h.bytes
  exact ⟨a, cap, e⟩

/-- What has been appended is stored. -/
theorem wat_store {w w1 : World} {b : Nat} {data data' : List Nat} {r r' : Option Nat} {v' : Value} (h : WAt w b data r) (hg : w.grownBy w1 r) (ho : Own w1 v' data' r') (hr : r' = r ∨ ∃ g, r' = some g ∧ w.heap.size ≤ g) :
    WPost w (w1.setCell ⟨b, 0, none⟩ v') b data' r := by
  have hb := h.lt
  obtain ⟨dv, a1, a2, a3, a4⟩ := h
  have hbl : w1.heap[b]? = w.heap[b]? := hg.block b hb (fun e => a4 e.symm)
  have hc1 : w1.cell? ⟨b, 0, none⟩ = some dv := by rw [World.cell?_of_block (w := w) (a := ⟨b, 0, none⟩) hbl]; exact a1
  have hf1 : w1.frozen? ⟨b, 0, none⟩ = false := by rw [World.frozen?_of_block (w := w) (a := ⟨b, 0, none⟩) hbl]; exact a2
  have hne : r' ≠ some b := by
    rcases hr with rfl | ⟨g, rfl, hg'⟩
    · exact a4
    · simp; omega
  have hset : w1.grownBy (w1.setCell ⟨b, 0, none⟩ v') (some b) := grow_setCells w1 b 0 [v']
  refine ⟨r', ⟨v', World.cell?_setCell_same _ _ _ hc1, ?_, ho.kept hset (.inr hne), hne⟩, ⟨hset.os.trans hg.os, hset.tape.trans hg.tape, hset.output.trans hg.output, Nat.le_trans hg.size hset.size, fun k hk hkb hkr => ?_⟩, hr⟩
  · have := World.frozen?_setCells b [v'] 0 w1 ⟨b, 0, none⟩
    rw [← hf1]; exact this
  · rw [hset.block k (Nat.lt_of_lt_of_le hk hg.size) (by simp; exact hkb)]
    exact hg.block k hk hkr

theorem wat_cells {w w1 : World} {b : Nat} {data : List Nat} {r : Option Nat} {dv : Value} (hc : w.cell? ⟨b, 0, none⟩ = some dv) (hf : w.frozen? ⟨b, 0, none⟩ = false) (hr : r ≠ some b) (hg : w.grownBy w1 r) :
    w1.cell? ⟨b, 0, none⟩ = some dv ∧ w1.frozen? ⟨b, 0, none⟩ = false := by
  have hbl : w1.heap[b]? = w.heap[b]? := hg.block b (cell_lt hc) (fun e => hr e.symm)
  exact ⟨by rw [World.cell?_of_block (w := w) (a := ⟨b, 0, none⟩) hbl]; exact hc, by rw [World.frozen?_of_block (w := w) (a := ⟨b, 0, none⟩) hbl]; exact hf⟩

theorem wUvarint (b : Nat) (data : List Nat) (r : Option Nat) (v : Nat) (w : World) (h : WAt w b data r) (hv : v < 18446744073709551616) (hl : data.length + 10 ≤ 140737488355328) :
    Calls Try.prog 56 #[.pointer (some ⟨b, 0, none⟩), .int .u64 v] w fun e w' => e = .returned (.tuple #[]) ∧ WPost w w' b (data ++ uv v) r := by
  have HW : Hid (WAt w b data r) := h
  obtain ⟨dv, hcell, hfz, ho, hne⟩ := h
  have HO : Hid (Own w dv data r) := ho
  have HNE : Hid (r ≠ some b) := hne
  have hblt := cell_lt hcell
  clear ho hne
  go_enter Try.func56, Try.ntmps56
  go_wp2_with fail
  refine (appendUvarint dv data r v _ hv HO.out hl).mono ?_
  rintro e w1 ⟨v', r', rfl, ho', hg', hr', hn'⟩
  obtain ⟨a', cap', rfl⟩ := ho'.isSlice
  have HO2 : Hid (Own w1 (.slice a' (data ++ uv v).length cap') (data ++ uv v) r') := ho'
  have HG : Hid (w.grownBy w1 r) := hg'
  have HR : Hid (r' = r ∨ ∃ g, r' = some g ∧ w.heap.size ≤ g) := hr'
  obtain ⟨hcell1, hfz1⟩ := wat_cells (data := data) hcell hfz HNE.out HG.out
  clear ho' hg' hr' hn' hcell hfz
  go_wp2
  go_end0
  exact ⟨rfl, by simpa using wat_store HW.out HG.out HO2.out HR.out⟩

theorem wRaw (b : Nat) (data : List Nat) (r : Option Nat) (x : Value) (k : List Nat) (w : World) (h : WAt w b data r) (hx : BytesAt w x k) (hl : data.length + k.length ≤ 140737488355328) :
    Calls Try.prog 57 #[.pointer (some ⟨b, 0, none⟩), x] w fun e w' => e = .returned (.tuple #[]) ∧ WPost w w' b (data ++ k) r := by
  have HW : Hid (WAt w b data r) := h
  obtain ⟨dv, hcell, hfz, ho, hne⟩ := h
  have HO : Hid (Own w dv data r) := ho
  have HX : Hid (BytesAt w x k) := hx
  have HNE : Hid (r ≠ some b) := hne
  have hblt := cell_lt hcell
  clear ho hne hx
  go_enter Try.func57, Try.ntmps57
  go_wp2_with (at_builtin; refine wpList_append_row _ rfl _ _ 22 22 rfl Try.underlying22 _ _ data k r rfl rfl ?hOwn ?hByte ?hSrc ?hLen ?_)
  case hOwn => exact HO.out
  case hByte => exact HX.out.byte
  case hSrc => exact src_of Try.underlying22 HX.out
  intro v' w1 r' ho' hg' hr' hn'
  obtain ⟨a', cap', rfl⟩ := ho'.isSlice
  have HO2 : Hid (Own w1 (.slice a' (data ++ k).length cap') (data ++ k) r') := ho'
  have HG : Hid (w.grownBy w1 r) := hg'
  have HR : Hid (r' = r ∨ ∃ g, r' = some g ∧ w.heap.size ≤ g) := by
    rcases hr' with rfl | rfl
    · exact .inl rfl
    · exact .inr ⟨_, rfl, Nat.le_refl _⟩
  obtain ⟨hcell1, hfz1⟩ := wat_cells (data := data) hcell hfz HNE.out HG.out
  clear ho' hg' hr' hn' hcell hfz
  go_wp2
  go_end0
  exact ⟨rfl, by simpa using wat_store HW.out HG.out HO2.out HR.out⟩

theorem clone (v : Value) (l : List Nat) (w : World) (h : BytesAt w v l) (hl : l.length ≤ 140737488355328) :
    Calls Try.prog 61 #[v] w fun e w' => ∃ v' r', e = .returned v' ∧ Own w' v' l r' ∧ Below w.heap.size w w' ∧ (∀ g, r' = some g → w.heap.size ≤ g) := by
  have HB : Hid (BytesAt w v l) := h
  obtain ⟨a, cap, rfl, _⟩ := h
  cases a with
  | none =>
    have hl0 : l = [] := by
      obtain ⟨a', cap', e, _, _, _, h5⟩ := HB.out
      simp only [Value.slice.injEq] at e
      apply Classical.byContradiction
      intro hne
      obtain ⟨b, off, e2, _⟩ := h5 hne
      rw [e2] at e; simp at e
    subst hl0
    have hq := fun wx => Lib.run_eql_slice_nil (P := Try.prog) wx 22 5 none 0 cap 0 0 Try.underlying22
    clear HB
    go_enter Try.func61, Try.ntmps61
    go_wp2
    go_ret
    exact ⟨_, none, rfl, Own.nil w, Below.refl _ _, by simp⟩
  | some x =>
    have hq := fun wx => Lib.run_eql_slice_nil (P := Try.prog) wx 22 5 (some x) l.length cap 0 0 Try.underlying22
    go_enter Try.func61, Try.ntmps61
    go_wp2_with (at_builtin; refine wpList_append_row _ rfl _ _ 22 22 rfl Try.underlying22 _ _ [] l (some w.heap.size) rfl rfl ?hOwn ?hByte ?hSrc ?hLen ?_)
    case hOwn => exact Own.empty w 5
    case hByte => exact HB.out.byte
    case hSrc => exact src_of Try.underlying22 (HB.out.later ((Below.refl _ _).alloc (Nat.le_refl _) _))
    case hLen => simpa using hl
    intro v3 w3 r3 ho3 hg3 hr3 hn3
    have HB3 : Hid (Below w.heap.size w w3) := grow_below (grow_trans (World.grownBy_alloc w _ none) hg3 (.inr (.inr ⟨_, rfl, Nat.le_refl _⟩))) (Nat.le_refl _) (by simp)
    have HO3 : Hid (Own w3 v3 l r3) := ho3
    have HR3 : Hid (∀ g, r3 = some g → w.heap.size ≤ g) := by
      intro g hg
      rcases hr3 with rfl | rfl
      · simp at hg; omega
      · simp at hg; omega
    clear ho3 hg3 hr3 hn3 hq
    go_wp2
    go_ret
    exact ⟨v3, r3, rfl, HO3.out, HB3.out, HR3.out⟩

theorem wBytes (b : Nat) (data : List Nat) (r : Option Nat) (w : World) (h : WAt w b data r) (hl : data.length ≤ 140737488355328) :
    Calls Try.prog 58 #[.pointer (some ⟨b, 0, none⟩)] w fun e w' => ∃ v' r', e = .returned v' ∧ Own w' v' data r' ∧ Below w.heap.size w w' ∧ (∀ g, r' = some g → w.heap.size ≤ g) := by
  obtain ⟨dv, hcell, hfz, ho, hne⟩ := h
  have HO : Hid (BytesAt w dv data) := ho.bytes
  clear ho hne
  go_enter Try.func58, Try.ntmps58
  go_wp2_with fail
  refine (clone dv data w HO.out hl).mono ?_
  rintro e w1 ⟨v', r', rfl, ho', hb', hr'⟩
  have HO2 : Hid (Own w1 v' data r') := ho'
  have HB : Hid (Below w.heap.size w w1) := hb'
  have HR : Hid (∀ g, r' = some g → w.heap.size ≤ g) := hr'
  clear ho' hb' hr'
  go_wp2
  go_ret
  exact ⟨v', r', rfl, HO2.out, HB.out, HR.out⟩

end Go.Proofs.Ytklfmgkfcacfkaa
