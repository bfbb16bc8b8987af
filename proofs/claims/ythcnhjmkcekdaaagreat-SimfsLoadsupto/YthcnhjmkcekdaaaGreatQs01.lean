import Derived.Test.YthcnhjmkcekdaaaGreatProg
import Derived.WalkKit
import Derived.WalkLawsBesides
import Derived.Deep.QuietTactic
import Derived.BigQuiet
import Derived.WalkSmall
import Derived.OpenShut
import Derived.Deep.AppendSrc
import Derived.Deep.Upon
import Derived.Laws.IdiomCopy
import Derived.Laws.IdiomStrings
namespace Go.Proofs.YthcnhjmkcekdaaaGreat.Plain
/-- What bytes say that are read as a short number, i of them having been read, which came to acc. -/
def rdGo : List Nat → Nat → Nat → Nat × Nat × Nat
  | [], _, _ => (0, 0, 10)
  | c :: cs, i, acc =>
    if (0 < i ∧ c = 0) ∨ (i = 9 ∧ c ≠ 1) then (0, 0, 11)
    else if c < 128 then (acc + c % 128 * 2 ^ (7 * i), i + 1, 0)
    else rdGo cs (i + 1) (acc + c % 128 * 2 ^ (7 * i))
def rd (l : List Nat) : Nat × Nat × Nat := rdGo l 0 0
end Go.Proofs.YthcnhjmkcekdaaaGreat.Plain

namespace Go.Proofs.YthcnhjmkcekdaaaGreat
open Go.RowKit Plain
set_option linter.unusedVariables false
/-- v is a slice of bytes that reads as l. -/
def BytesAt (w : World) (v : Value) (l : List Nat) : Prop :=
  ∃ a cap, v = .slice a l.length cap ∧ l.length ≤ cap ∧ cap ≤ maxLen ∧ (∀ c ∈ l, c < 256) ∧
    (l ≠ [] → ∃ b off, a = some ⟨b, off, none⟩ ∧ ∀ j, j < l.length → w.cell? ⟨b, off + j, none⟩ = some (.int .u8 ((l.getD j 0 : Nat) : Int)))
theorem cell_lt {w : World} {a : Addr} {v : Value} (h : w.cell? a = some v) : a.block < w.heap.size := by
  unfold World.cell? at h
  cases e : w.heap[a.block]? with
  | none => rw [e] at h; simp at h
  | some o => exact (Array.getElem?_eq_some_iff.mp e).1
theorem BytesAt.of_cells {w w' : World} {v : Value} {l : List Nat} (h : BytesAt w v l) (hc : ∀ b o u, w.cell? ⟨b, o, none⟩ = some u → w'.cell? ⟨b, o, none⟩ = some u) : BytesAt w' v l := by
  obtain ⟨a, cap, rfl, h1, h2, h3, h4⟩ := h
  refine ⟨a, cap, rfl, h1, h2, h3, fun hne => ?_⟩
  obtain ⟨b, off, rfl, h5⟩ := h4 hne
  exact ⟨b, off, rfl, fun j hj => hc _ _ _ (h5 j hj)⟩
theorem BytesAt.later {w w' : World} {v : Value} {l : List Nat} (h : BytesAt w v l) (hb : Below w.heap.size w w') : BytesAt w' v l :=
  h.of_cells fun b o u hu => by rw [hb.cell (cell_lt hu)]; exact hu
theorem BytesAt.drewN {w : World} {v : Value} {l : List Nat} (h : BytesAt w v l) (n : Nat) : BytesAt (w.drewN n) v l := h
theorem BytesAt.len {w : World} {v : Value} {l : List Nat} (h : BytesAt w v l) : l.length ≤ maxLen := by
  obtain ⟨a, cap, rfl, h1, h2, h3, h4⟩ := h
  omega
theorem BytesAt.byte {w : World} {v : Value} {l : List Nat} (h : BytesAt w v l) : ∀ c ∈ l, c < 256 := by
  obtain ⟨a, cap, rfl, h1, h2, h3, h4⟩ := h
  exact h3
theorem BytesAt.nil (w : World) : BytesAt w (.slice none 0 0) [] := ⟨none, 0, rfl, by simp, by simp, by simp, by simp⟩
theorem getD_take (l : List Nat) (n j : Nat) (h : j < n) : (l.take n).getD j 0 = l.getD j 0 := by
  simp [List.getD_eq_getElem?_getD, h]
theorem BytesAt.take {w : World} {a : Option Addr} {len cap : Nat} {l : List Nat} (h : BytesAt w (.slice a len cap) l) (n : Nat) (hn : n ≤ l.length) : BytesAt w (.slice a n cap) (l.take n) := by
  obtain ⟨a', cap', e, h1, h2, h3, h4⟩ := h
  simp only [Value.slice.injEq] at e
  obtain ⟨rfl, rfl, rfl⟩ := e
  have hl : (l.take n).length = n := by simp; omega
  refine ⟨a, cap, by rw [hl], by omega, h2, fun c hc => h3 c (List.mem_of_mem_take hc), fun hne => ?_⟩
  obtain ⟨b, off, rfl, h5⟩ := h4 (by rintro rfl; simp at hne)
  refine ⟨b, off, rfl, fun j hj => ?_⟩
  rw [getD_take l n j (by omega)]
  exact h5 j (by omega)
/-- The cells of a row of bytes. -/
def cellsOf (l : List Nat) : List Value := l.map fun c : Nat => Value.int .u8 (Int.ofNat c)
theorem below_on {w u v : World} (h : Below w.heap.size w u) (k : Below u.heap.size u v) : Below w.heap.size w v := h.trans (k.mono h.size)
/-- A row of numbers that came in, as bytes. -/
theorem bytes_of_row {w : World} {a : Option Addr} {len cap : Nat} {zs : List Int}
    (h : (a = none ∧ len = 0 ∧ cap = 0 ∧ zs = []) ∨ ∃ x, a = some x ∧ len ≤ cap ∧ cap ≤ maxLen ∧ zs.length = cap ∧ (∀ i, i < zs.length → w.cell? (x.add i) = some (.int .u8 (zs.getD i 0))) ∧ ∀ n ∈ zs, (Lit.int .u8 n).wf = true) :
    ∃ l : List Nat, l.length = len ∧ BytesAt w (.slice a len cap) l := by
  rcases h with ⟨rfl, rfl, rfl, rfl⟩ | ⟨x, rfl, h1, h2, h3, h4, h5⟩
  · exact ⟨[], rfl, BytesAt.nil w⟩
  · have hl : ((zs.take len).map Int.toNat).length = len := by simp; omega
    refine ⟨(zs.take len).map Int.toNat, hl, some x, cap, by rw [hl], by omega, h2, fun c hc => ?_, fun hne => ?_⟩
    · obtain ⟨n, hn, rfl⟩ := List.mem_map.mp hc
      have := bounds_u8 (h5 n (List.mem_of_mem_take hn))
      omega
    · have hz : 0 < zs.length := by
        have := List.length_pos_iff.mpr hne
        omega
      obtain ⟨b, off, rfl, hc⟩ := ints_at h4 hz
      refine ⟨b, off, rfl, fun j hj => ?_⟩
      rw [hl] at hj
      rw [hc j (by omega)]
      have hjz : j < zs.length := by omega
      have hb := bounds_u8 (h5 zs[j] (List.getElem_mem hjz))
      have e1 : zs.getD j 0 = zs[j] := by simp [List.getD_eq_getElem?_getD, hjz]
      have e2 : ((zs.take len).map Int.toNat).getD j 0 = zs[j].toNat := by
        simp [List.getD_eq_getElem?_getD, List.getElem?_take_of_lt hj, hjz]
      rw [e1, e2]
      congr 2
      omega
theorem Tryz.info5 : (Tryz.prog.info? 5).map (fun i => (i.zero, i.size, i.bytes)) = some (some (.int .u8 0), 1, 1) := by kernel_rfl
end Go.Proofs.YthcnhjmkcekdaaaGreat

namespace Go.Proofs.YthcnhjmkcekdaaaGreat
open Go.RowKit Plain
set_option linter.unusedVariables false
theorem take_snoc {l : List Nat} {k : Nat} (h : k < l.length) : l.take (k + 1) = l.take k ++ [l.getD k 0] := by
  rw [List.take_succ_eq_append_getElem h]
  simp [List.getD_eq_getElem?_getD, List.getElem?_eq_getElem h]
theorem dn2 (w : World) (a b : Nat) : ∃ n, (w.drewN a).drewN b = w.drewN n := ⟨a + b, World.drewN_drewN _ _ _⟩
set_option maxHeartbeats 400000 in
theorem sameBytes (va vb : Value) (la lb : List Nat) (w : World) (ha : BytesAt w va la) (hb : BytesAt w vb lb) :
    Calls Tryz.prog 39 #[va, vb] w fun e w' => e = .returned (.bool (decide (la = lb))) ∧ ∃ n, w' = w.drewN n := by
  obtain ⟨a, cap, rfl, hlc, hcm, hby, hcells⟩ := ha
  obtain ⟨a', cap', rfl, hlc', hcm', hby', hcells'⟩ := hb
  unfold maxLen at hcm hcm'
  clear hby hby'
  by_cases hlen : la.length = lb.length
  · by_cases hnil : la = []
    · subst hnil
      have : lb = [] := List.length_eq_zero_iff.mp hlen.symm
      subst this
      clear hcells hcells' hlen
      go_enter Tryz.func39, Tryz.ntmps39
      go_wp2
      refine wp_loop_rounds 1 ?_
      rw [rounds_succ]
      go_wp2
      go_ret
      exact ⟨rfl, 0, rfl⟩
    · obtain ⟨b, off, rfl, hc⟩ := hcells hnil
      obtain ⟨b', off', rfl, hc'⟩ := hcells' (by rintro rfl; simp at hlen; exact hnil hlen)
      clear hcells hcells' hnil
      have hne : ((la.length : Int) != (lb.length : Int)) = false := by simp; omega
      have HL : Hid (la.length = lb.length) := hlen
      clear hlen
      go_enter Tryz.func39, Tryz.ntmps39
      go_wp2
      go_loopw [5] (fun i w' => ∃ k n : Nat, w' = w.drewN n ∧ k ≤ la.length ∧ i = .int .i64 k ∧ la.take k = lb.take k) (fun i _ => la.length - (intOf i).toNat)
      case atStart => exact ⟨0, 0, rfl, by omega, rfl, rfl⟩
      case round =>
        obtain ⟨k, n, rfl, hk, rfl, ht⟩ := hrel
        have HT : Hid (la.take k = lb.take k) := ht
        clear ht
        by_cases hlt : k < la.length
        · have hcell := hc k hlt
          have hcell' := hc' k (by rw [← HL.out]; exact hlt)
          have hlt' : k < lb.length := by rw [← HL.out]; exact hlt
          obtain ⟨x, hx⟩ : ∃ x, la.getD k 0 = x := ⟨_, rfl⟩
          obtain ⟨y, hy⟩ : ∃ y, lb.getD k 0 = y := ⟨_, rfl⟩
          rw [hx] at hcell
          rw [hy] at hcell'
          have HS : Hid (x = y → la.take (k + 1) = lb.take (k + 1)) := fun e => by
            rw [take_snoc hlt, take_snoc hlt', HT.out, hx, hy, e]
          have HN : Hid (x ≠ y → la ≠ lb) := fun e h => by subst h; exact e (by rw [← hx, ← hy])
          clear hx hy hc hc' HT
          by_cases hxy : x = y
          · have h2 : ((x : Int) != (y : Int)) = false := by simp; omega
            have HS2 := HS.out hxy
            have HS3 : Hid (la.take (k + 1) = lb.take (k + 1)) := HS2
            clear HS HS2 HN hxy
            go_wp2
            go_quiet (fail)
            go_wp2
            go_roundw
            case rel => exact ⟨k + 1, _, rfl, by omega, by go_num, HS3.out⟩
            case measure => simp [intOf]; omega
          · have h2 : ((x : Int) != (y : Int)) = true := by simp; omega
            have HN2 : Hid (la ≠ lb) := HN.out hxy
            clear HS HN hxy
            go_wp2
            go_quiet (fail)
            go_wp2
            go_ret
            exact ⟨by rw [decide_eq_false HN2.out]; rfl, dn2 _ _ _⟩
        · have HE : Hid (la = lb) := by
            have := HT.out
            rw [List.take_of_length_le (by omega), List.take_of_length_le (by rw [← HL.out]; omega)] at this
            exact this
          clear hc hc' HT
          go_wp2
          go_ret
          exact ⟨by rw [decide_eq_true HE.out]; rfl, _, rfl⟩
  · have hne : ((la.length : Int) != (lb.length : Int)) = true := by simp; omega
    have HN : Hid (la ≠ lb) := fun h => hlen (by rw [h])
    clear hcells hcells' hlen
    go_enter Tryz.func39, Tryz.ntmps39
    go_wp2
    go_ret
    exact ⟨by rw [decide_eq_false HN.out]; rfl, 0, rfl⟩
end Go.Proofs.YthcnhjmkcekdaaaGreat

namespace Go.Proofs.YthcnhjmkcekdaaaGreat
open Go.RowKit Plain
set_option linter.unusedVariables false
/-- v reads as l, and lies at the head of a row of bytes, in block r, that may be written. -/
def Own (w : World) (v : Value) (l : List Nat) (r : Option Nat) : Prop :=
  (∀ c ∈ l, c < 256) ∧ ((v = .slice none 0 0 ∧ l = [] ∧ r = none) ∨
    ∃ g cap, r = some g ∧ v = .slice (some ⟨g, 0, none⟩) l.length cap ∧ g < w.heap.size ∧ l.length ≤ cap ∧ cap ≤ maxLen ∧
      (∀ j, j < cap → w.frozen? ⟨g, j, none⟩ = false) ∧ (∀ j, j < cap → (w.cell? ⟨g, j, none⟩).isSome = true) ∧
      ∀ j, j < l.length → w.cell? ⟨g, j, none⟩ = some (.int .u8 ((l.getD j 0 : Nat) : Int)))
theorem grow_trans {a b c : World} {r r' : Option Nat} (h : a.grownBy b r) (k : b.grownBy c r') (hr : r' = r ∨ r' = none ∨ ∃ g, r' = some g ∧ a.heap.size ≤ g) : a.grownBy c r :=
  ⟨k.os.trans h.os, k.tape.trans h.tape, k.output.trans h.output, Nat.le_trans h.size k.size, fun i hi hne => by
    rw [k.block i (Nat.lt_of_lt_of_le hi h.size) ?_]
    · exact h.block i hi hne
    · rcases hr with rfl | rfl | ⟨g, rfl, hg⟩
      · exact hne
      · simp
      · simp only [ne_eq, Option.some.injEq]; omega⟩
theorem below_grow {w w' : World} (h : Below w.heap.size w w') (r : Option Nat) : w.grownBy w' r := ⟨h.os, h.tape, h.output, h.size, fun k hk _ => h.block k hk⟩
theorem grow_below {w w' : World} {r : Option Nat} {B : Nat} (h : w.grownBy w' r) (hB : B ≤ w.heap.size) (hr : ∀ g, r = some g → B ≤ g) : Below B w w' :=
  ⟨h.os, h.tape, h.output, h.size, fun k hk => h.block k (Nat.lt_of_lt_of_le hk hB) (fun e => by have := hr k e.symm; omega)⟩
theorem Own.byte {w : World} {v : Value} {l : List Nat} {r : Option Nat} (h : Own w v l r) : ∀ c ∈ l, c < 256 := h.1
theorem Own.nil (w : World) : Own w (.slice none 0 0) [] none := ⟨by simp, .inl ⟨rfl, rfl, rfl⟩⟩
theorem Own.kept {w w' : World} {v : Value} {l : List Nat} {r r' : Option Nat} (h : Own w v l r) (k : w.grownBy w' r') (hne : r = none ∨ r ≠ r') : Own w' v l r := by
  refine ⟨h.1, ?_⟩
  rcases h.2 with h0 | ⟨g, cap, rfl, rfl, hg, h1, h2, h3, h4, h5⟩
  · exact .inl h0
  · have hb : w'.heap[g]? = w.heap[g]? := k.block g hg (by rcases hne with h | h <;> simp_all)
    refine .inr ⟨g, cap, rfl, rfl, Nat.lt_of_lt_of_le hg k.size, h1, h2, fun j hj => ?_, fun j hj => ?_, fun j hj => ?_⟩
    · rw [World.frozen?_of_block (w := w) (a := ⟨g, j, none⟩) hb]; exact h3 j hj
    · rw [World.cell?_of_block (w := w) (a := ⟨g, j, none⟩) hb]; exact h4 j hj
    · rw [World.cell?_of_block (w := w) (a := ⟨g, j, none⟩) hb]; exact h5 j hj
theorem Own.later {w w' : World} {v : Value} {l : List Nat} {r : Option Nat} (h : Own w v l r) (k : Below w.heap.size w w') : Own w' v l r := by
  cases r with
  | none => exact h.kept (below_grow k none) (.inl rfl)
  | some g => exact h.kept (below_grow k none) (.inr (by simp))
theorem Own.lt {w : World} {v : Value} {l : List Nat} {g : Nat} (h : Own w v l (some g)) : g < w.heap.size := by
  rcases h.2 with ⟨_, _, h⟩ | ⟨g', cap, e, _, hg, _⟩
  · simp at h
  · simp at e; omega
theorem Own.bytes {w : World} {v : Value} {l : List Nat} {r : Option Nat} (h : Own w v l r) : BytesAt w v l := by
  rcases h.2 with ⟨rfl, rfl, rfl⟩ | ⟨g, cap, rfl, rfl, hg, h1, h2, h3, h4, h5⟩
  · exact BytesAt.nil w
  · exact ⟨_, cap, rfl, h1, h2, h.1, fun _ => ⟨g, 0, rfl, fun j hj => by rw [Nat.zero_add]; exact h5 j hj⟩⟩
theorem Own.len {w : World} {v : Value} {l : List Nat} {r : Option Nat} (h : Own w v l r) : l.length ≤ maxLen := h.bytes.len
theorem Own.take {w : World} {a : Option Addr} {len cap : Nat} {l : List Nat} {r : Option Nat} (h : Own w (.slice a len cap) l r) (n : Nat) (hn : n ≤ l.length) : Own w (.slice a n cap) (l.take n) r := by
  refine ⟨fun c hc => h.1 c (List.mem_of_mem_take hc), ?_⟩
  have hl : (l.take n).length = n := by simp; omega
  rcases h.2 with ⟨e, rfl, rfl⟩ | ⟨g, cap', rfl, e, hg, h1, h2, h3, h4, h5⟩
  · simp only [Value.slice.injEq] at e
    obtain ⟨rfl, rfl, rfl⟩ := e
    have : n = 0 := by simpa using hn
    subst this
    exact .inl ⟨rfl, rfl, rfl⟩
  · simp only [Value.slice.injEq] at e
    obtain ⟨rfl, rfl, rfl⟩ := e
    refine .inr ⟨g, cap, rfl, by rw [hl], hg, by omega, h2, h3, h4, fun j hj => ?_⟩
    rw [getD_take l n j (by omega)]
    exact h5 j (by omega)
theorem Own.shape {w : World} {v : Value} {l : List Nat} {g : Nat} (h : Own w v l (some g)) : ∃ cap, v = .slice (some ⟨g, 0, none⟩) l.length cap ∧ l.length ≤ cap ∧ cap ≤ maxLen := by
  rcases h.2 with ⟨_, _, h⟩ | ⟨g', cap, e, rfl, hg, h1, h2, _⟩
  · simp at h
  · simp at e; subst e; exact ⟨cap, rfl, h1, h2⟩
/-- A row of no bytes. -/
theorem Own.empty (w : World) (t : TypeId) : Own (w.alloc (.cells #[] t)) (.slice (some ⟨w.heap.size, 0, none⟩) 0 0) [] (some w.heap.size) :=
  ⟨by simp, .inr ⟨w.heap.size, 0, rfl, rfl, by simp, by simp, by simp, by simp, by simp, by simp⟩⟩
theorem cellsOf_get (l : List Nat) (j : Nat) (h : j < l.length) : (cellsOf l)[j]? = some (.int .u8 ((l.getD j 0 : Nat) : Int)) := by
  simp [cellsOf, List.getD_eq_getElem?_getD, List.getElem?_eq_getElem h]
theorem cellsOf_len (l : List Nat) : (cellsOf l).length = l.length := by simp [cellsOf]
theorem cellsOf_append (l k : List Nat) : cellsOf l ++ cellsOf k = cellsOf (l ++ k) := by simp [cellsOf]
theorem cellsOf_one (l : List Nat) : ∀ u ∈ cellsOf l, u.oneCell' = true := by
  intro u hu
  obtain ⟨_, _, rfl⟩ := List.mem_map.mp hu
  rfl
theorem getD_left (l k : List Nat) {j : Nat} (h : j < l.length) : (l ++ k).getD j 0 = l.getD j 0 := by
  simp [List.getD_eq_getElem?_getD, List.getElem?_append_left h]
theorem getD_right (l k : List Nat) {j : Nat} (h : l.length ≤ j) : (l ++ k).getD j 0 = k.getD (j - l.length) 0 := by
  simp [List.getD_eq_getElem?_getD, List.getElem?_append_right h]
/-- A new row. -/
theorem Own.new (w : World) (C : Array Value) (l : List Nat) (cap : Nat) (t : TypeId) (hb : ∀ c ∈ l, c < 256) (hcap : C.size = cap) (hle : l.length ≤ cap) (hm : cap ≤ maxLen) (hC : ∀ j, j < l.length → C[j]? = some (.int .u8 ((l.getD j 0 : Nat) : Int))) :
    Own (w.alloc (.cells C t)) (.slice (some ⟨w.heap.size, 0, none⟩) l.length cap) l (some w.heap.size) := by
  refine ⟨hb, .inr ⟨w.heap.size, cap, rfl, rfl, by simp, hle, hm, fun j hj => ?_, fun j hj => ?_, fun j hj => ?_⟩⟩
  · exact World.frozen?_alloc_at _ _ _ _ rfl
  · rw [World.cell?_alloc_at _ _ _ _ rfl, Array.getElem?_eq_getElem (by omega)]; rfl
  · rw [World.cell?_alloc_at _ _ _ _ rfl]; exact hC j hj
/-- A slice of bytes that is appended. -/
theorem src_of {w : World} {v : Value} {l : List Nat} {t : TypeId} (ht : Tryz.prog.underlying t = some (.slice 5)) (h : BytesAt w v l) : Src Tryz.prog 1 t v l.length (cellsOf l) w := by
  obtain ⟨a, cap, rfl, h1, h2, h3, h4⟩ := h
  by_cases hnil : l = []
  · subst hnil
    cases a with
    | none => exact Src.ofNil w ht cap
    | some a => exact Src.ofSlice w ht a 0 cap [] (by simp) (by simp) (by simp)
  · obtain ⟨b, off, rfl, h5⟩ := h4 hnil
    refine Src.ofSlice w ht _ _ cap _ (by rw [cellsOf_len]; simp) (fun j u hj => ?_) (cellsOf_one l)
    have hjl : j < l.length := by
      have := (List.getElem?_eq_some_iff.mp hj).1
      rwa [cellsOf_len] at this
    rw [WideShapes.add_plain, h5 j hjl, ← cellsOf_get l j hjl, hj]
theorem setCells_size (b : Nat) : ∀ (vs : List Value) (o : Nat) (w : World), (w.setCells b o vs).heap.size = w.heap.size
  | [], _, _ => rfl
  | v :: vs, o, w => by rw [World.setCells, setCells_size b vs]; simp
theorem setCells_tape (b : Nat) : ∀ (vs : List Value) (o : Nat) (w : World), (w.setCells b o vs).tape = w.tape
  | [], _, _ => rfl
  | v :: vs, o, w => by rw [World.setCells, setCells_tape b vs]; rfl
theorem grow_setCells (w : World) (g o : Nat) (vs : List Value) : w.grownBy (w.setCells g o vs) (some g) :=
  ⟨World.os_setCells w g o vs, setCells_tape g vs o w, World.output_setCells w g o vs, by rw [setCells_size]; exact Nat.le_refl _, fun k hk hne => World.heap_setCells_other w g o vs hk (fun e => hne (by rw [e]))⟩
theorem isSome_setCells (b : Nat) : ∀ (vs : List Value) (o : Nat) (w : World) (x : Addr), (w.cell? x).isSome = true → ((w.setCells b o vs).cell? x).isSome = true
  | [], _, _, _, h => h
  | v :: vs, o, w, x, h => by
    rw [World.setCells]
    apply isSome_setCells b vs
    by_cases hx : x = ⟨b, o, none⟩
    · subst hx
      obtain ⟨u, hu⟩ := Option.isSome_iff_exists.mp h
      rw [World.cell?_setCell_same _ _ _ hu]; rfl
    · rw [World.cell?_setCell_other _ _ _ _ (Ne.symm hx)]; exact h
/-- WHAT append DOES to a row of the call's own. -/
theorem run_append_row (w : World) (t tx ty : TypeId) (ht : Tryz.prog.underlying t = some (.slice 5)) (v x : Value) (l k : List Nat) (r : Option Nat) (hown : Own w v l r)
    (hk : ∀ c ∈ k, c < 256) (hs : Src Tryz.prog 1 tx x k.length (cellsOf k) w) (hlen : l.length + k.length ≤ 140737488355328) :
    ∃ v' w' r', (Builtin.append_ #[t, tx] ty #[v, x]).run Tryz.prog w = .ok v' w' ∧ Own w' v' (l ++ k) r' ∧ w.grownBy w' r ∧ (r' = r ∨ r' = some w.heap.size) ∧ (k ≠ [] → r' ≠ none) := by
  obtain ⟨i, hi, hz0, hz1, hz2⟩ := info_parts Tryz.info5
  have hby : ∀ c ∈ l ++ k, c < 256 := fun c hc => by
    rcases List.mem_append.mp hc with h | h
    · exact hown.1 c h
    · exact hk c h
  have hs' : Src Tryz.prog i.size tx x k.length (cellsOf k) w := by rw [hz1]; exact hs
  have hmax : l.length + k.length ≤ maxLen := by unfold maxLen; omega
  have grow : ∀ (base : Option Addr) (sCap : Nat), (Builtin.firstCells i.size l.length (.slice base l.length sCap)).run Tryz.prog w.drew = .ok (cellsOf l).toArray w.drew → sCap < l.length + k.length →
      ∃ v' w' r', (Builtin.append_ #[t, tx] ty #[.slice base l.length sCap, x]).run Tryz.prog w = .ok v' w' ∧ Own w' v' (l ++ k) r' ∧ w.grownBy w' r ∧ (r' = r ∨ r' = some w.heap.size) ∧ (k ≠ [] → r' ≠ none) := by
    intro base sCap hold hg
    have hr := run_append_grow_src (P := Tryz.prog) w t tx ty 5 i (.int .u8 0) ht hi hz0 base l.length sCap (cellsOf l) hold x k.length (cellsOf k) hs' hg (by omega) (by rw [hz2]; exact growslice_fits hg (by omega))
    have hge := grownCap_ge w (l.length + k.length) sCap 5
    have hcm := grownCap_le_maxLen w (l.length + k.length) sCap 5 hmax
    refine ⟨_, _, some w.heap.size, hr, ?_, ⟨rfl, rfl, rfl, by simp, fun k hk _ => heap_alloc_old w.drew _ hk⟩, .inr rfl, by simp⟩
    have hl2 : (l ++ k).length = l.length + k.length := by simp
    have := Own.new w.drew ((cellsOf l ++ cellsOf k).toArray ++ Builtin.zeroCells (Value.int .u8 0).cells (grownCap w (l.length + k.length) sCap 5 - (l.length + k.length))) (l ++ k) (grownCap w (l.length + k.length) sCap 5) 5 hby
      (by rw [cellsOf_append, Array.size_append, List.size_toArray, cellsOf_len, size_zeroCells, hl2]; show _ + _ * 1 = _; omega) (by omega) hcm
      (fun j hj => by rw [cellsOf_append, Array.getElem?_append_left (by rw [List.size_toArray, cellsOf_len]; exact hj), List.getElem?_toArray]; exact cellsOf_get _ j hj)
    rw [hl2] at this
    exact this
  rcases hown.2 with ⟨rfl, rfl, rfl⟩ | ⟨g, cap, rfl, rfl, hg, h1, h2, h3, h4, h5⟩
  · by_cases hk0 : k = []
    · subst hk0
      refine ⟨.slice none 0 0, w, none, ?_, Own.nil w, ⟨rfl, rfl, rfl, Nat.le_refl _, fun _ _ _ => rfl⟩, .inl rfl, by simp⟩
      exact run_append_nothing w t tx ty 5 i ht hi none 0 0 (Nat.le_refl _) x hs'
    · have hkl : 0 < k.length := List.length_pos_iff.mpr hk0
      exact grow none 0 (by rw [List.length_nil]; exact run_firstCells_none w.drew _ _ _ _) (by simpa using hkl)
  · by_cases hroom : l.length + k.length ≤ cap
    · have hr := run_append_room_src (P := Tryz.prog) w t tx ty 5 i ht hi g 0 l.length cap x k.length (cellsOf k) hs' hroom
        (fun j hj => by rw [hz1]; rw [cellsOf_len] at hj; simpa using h4 (l.length + j) (by omega))
        (fun j hj => by rw [hz1]; rw [cellsOf_len] at hj; simpa using h3 (l.length + j) (by omega))
      rw [hz1, Nat.zero_add, Nat.mul_one] at hr
      have hl2 : (l ++ k).length = l.length + k.length := by simp
      refine ⟨_, _, some g, hr, ⟨hby, .inr ⟨g, cap, rfl, by rw [hl2], ?_, by omega, h2, fun j hj => ?_, fun j hj => ?_, fun j hj => ?_⟩⟩, ?_, .inl rfl, by simp⟩
      · rw [setCells_size]; exact hg
      · rw [World.frozen?_setCells]; exact h3 j hj
      · exact isSome_setCells g _ _ w _ (h4 j hj)
      · by_cases hj' : j < l.length
        · rw [World.cell?_setCells_out g _ _ w _ (fun _ _ => .inl hj'), h5 j hj', getD_left l k hj']
        · have hj2 : j - l.length < k.length := by omega
          have := World.cell?_setCells_in g (cellsOf k) l.length w (fun m hm => h4 _ (by rw [cellsOf_len] at hm; omega)) (j - l.length) (by rw [cellsOf_len]; exact hj2)
          rw [show l.length + (j - l.length) = j by omega] at this
          rw [this, getD_right l k (by omega), ← cellsOf_get k _ hj2]
          rw [List.getElem?_eq_getElem (by rw [cellsOf_len]; exact hj2)]
      · exact grow_setCells w g _ _
    · refine grow _ cap ?_ (by omega)
      rw [hz1]
      refine run_firstCells_some w.drew 1 l.length ⟨g, 0, none⟩ _ _ (cellsOf l) (by rw [cellsOf_len, Nat.mul_one]) (fun j u hj => ?_)
      have hjl : j < l.length := by
        have := (List.getElem?_eq_some_iff.mp hj).1
        rwa [cellsOf_len] at this
      rw [WideShapes.add_plain, Nat.zero_add]
      show w.cell? ⟨g, j, none⟩ = some u
      rw [h5 j hjl, ← cellsOf_get l j hjl, hj]
theorem wpList_append_row {ops : Array Oper} {rest : List Oper} {o : Oper} {a : Act} {Q : Exit → Act → World → Prop} (w : World) (hgd : o.guard = none) (s x : Operand) (t tx : TypeId)
    (ho : o.op = .call { callee := .builtin .append, args := #[s, x], argTypes := #[t, tx] }) (ht : Tryz.prog.underlying t = some (.slice 5)) (v xv : Value) (l k : List Nat) (r : Option Nat)
    (hs : a.eval s = v) (hx : a.eval x = xv) (hown : Own w v l r) (hk : ∀ c ∈ k, c < 256) (hsrc : Src Tryz.prog 1 tx xv k.length (cellsOf k) w) (hlen : l.length + k.length ≤ 140737488355328)
    (h : ∀ v' w' r', Own w' v' (l ++ k) r' → w.grownBy w' r → (r' = r ∨ r' = some w.heap.size) → (k ≠ [] → r' ≠ none) → wpList Tryz.prog ops Q rest (a.put o.dst v') w') : wpList Tryz.prog ops Q (o :: rest) a w :=
  wpList_plain hgd fun _ hK => by
    obtain ⟨v', w', r', hr, h1, h2, h3, h4⟩ := run_append_row w t tx o.type ht v xv l k r hown hk hsrc hlen
    unfold Oper.wp execOp
    simp only [ho, resolve, invoke, builtin, Sem.run_bind, Sem.run_pure, Result.andThen_ok, List.map_toArray, List.map_cons, List.map_nil, hs, hx, hr]
    exact hK _ _ (h v' w' r' h1 h2 h3 h4)
/-- One byte in a new block of its own. -/
theorem src_one (w : World) (c : Nat) (tx t : TypeId) (ht : Tryz.prog.underlying tx = some (.slice 5)) : Src Tryz.prog 1 tx (.slice (some ⟨w.heap.size, 0, none⟩) 1 1) [c].length (cellsOf [c]) (w.alloc (.cells #[.int .u8 (c : Int)] t)) :=
  Src.ofSlice _ ht _ 1 1 _ (by simp [cellsOf]) (fun j u hj => by
    match j, hj with
    | 0, hj =>
      simp [cellsOf] at hj
      subst hj
      rw [WideShapes.add_plain, World.cell?_alloc_at _ _ _ _ rfl]; rfl) (cellsOf_one _)
end Go.Proofs.YthcnhjmkcekdaaaGreat

namespace Go.Proofs.YthcnhjmkcekdaaaGreat
open Go.RowKit Plain
set_option linter.unusedVariables false
def OwnV (w : World) (v : Value) (vs : List Value) (r : Option Nat) : Prop :=
  (v = .slice none 0 0 ∧ vs = [] ∧ r = none) ∨
  ∃ g cap, r = some g ∧ v = .slice (some ⟨g, 0, none⟩) vs.length cap ∧ g < w.heap.size ∧ vs.length ≤ cap ∧ cap ≤ maxLen ∧ (∀ j, j < cap → w.frozen? ⟨g, j, none⟩ = false) ∧ (∀ j, j < cap → (w.cell? ⟨g, j, none⟩).isSome = true) ∧
    ∀ j, j < vs.length → w.cell? ⟨g, j, none⟩ = vs[j]?
theorem OwnV.nil (w : World) : OwnV w (.slice none 0 0) [] none := .inl ⟨rfl, rfl, rfl⟩
theorem OwnV.of_block {w w' : World} {v : Value} {vs : List Value} {r : Option Nat} (h : OwnV w v vs r) (hs : w.heap.size ≤ w'.heap.size) (hb : ∀ g, r = some g → w'.heap[g]? = w.heap[g]?) : OwnV w' v vs r := by
  rcases h with h0 | ⟨g, cap, rfl, rfl, hg, h1, h2, h3, h4, h5⟩
  · exact .inl h0
  · have hb := hb g rfl
    refine .inr ⟨g, cap, rfl, rfl, Nat.lt_of_lt_of_le hg hs, h1, h2, fun j hj => ?_, fun j hj => ?_, fun j hj => ?_⟩
    · rw [World.frozen?_of_block (w := w) (a := ⟨g, j, none⟩) hb]; exact h3 j hj
    · rw [World.cell?_of_block (w := w) (a := ⟨g, j, none⟩) hb]; exact h4 j hj
    · rw [World.cell?_of_block (w := w) (a := ⟨g, j, none⟩) hb]; exact h5 j hj
theorem Own.of_block {w w' : World} {v : Value} {l : List Nat} {r : Option Nat} (h : Own w v l r) (hs : w.heap.size ≤ w'.heap.size) (hb : ∀ g, r = some g → w'.heap[g]? = w.heap[g]?) : Own w' v l r := by
  refine ⟨h.1, ?_⟩
  rcases h.2 with h0 | ⟨g, cap, rfl, rfl, hg, h1, h2, h3, h4, h5⟩
  · exact .inl h0
  · have hb := hb g rfl
    refine .inr ⟨g, cap, rfl, rfl, Nat.lt_of_lt_of_le hg hs, h1, h2, fun j hj => ?_, fun j hj => ?_, fun j hj => ?_⟩
    · rw [World.frozen?_of_block (w := w) (a := ⟨g, j, none⟩) hb]; exact h3 j hj
    · rw [World.cell?_of_block (w := w) (a := ⟨g, j, none⟩) hb]; exact h4 j hj
    · rw [World.cell?_of_block (w := w) (a := ⟨g, j, none⟩) hb]; exact h5 j hj
theorem OwnV.kept {w w' : World} {v : Value} {vs : List Value} {r r' : Option Nat} (h : OwnV w v vs r) (k : w.grownBy w' r') (hne : r = none ∨ r ≠ r') : OwnV w' v vs r := by
  refine h.of_block k.size (fun g e => ?_)
  subst e
  have hlt : g < w.heap.size := by
    rcases h with ⟨_, _, e⟩ | ⟨g', _, e, _, hg, _⟩
    · simp at e
    · simp at e; omega
  exact k.block g hlt (by rcases hne with h | h <;> simp_all)
theorem OwnV.lt {w : World} {v : Value} {vs : List Value} {g : Nat} (h : OwnV w v vs (some g)) : g < w.heap.size := by
  rcases h with ⟨_, _, e⟩ | ⟨g', _, e, _, hg, _⟩
  · simp at e
  · simp at e; omega
theorem OwnV.shape {w : World} {v : Value} {vs : List Value} {r : Option Nat} (h : OwnV w v vs r) : ∃ a cap, v = .slice a vs.length cap ∧ cap ≤ maxLen ∧ vs.length ≤ cap := by
  rcases h with ⟨rfl, rfl, h⟩ | ⟨g', cap, e, rfl, hg, h1, h2, _⟩
  · exact ⟨none, 0, rfl, by simp, by simp⟩
  · exact ⟨_, cap, rfl, h2, h1⟩
theorem OwnV.get {w : World} {a : Option Addr} {n c : Nat} {vs : List Value} {r : Option Nat} (h : OwnV w (.slice a n c) vs r) {j : Nat} {u : Value} (hj : vs[j]? = some u) : ∃ g, r = some g ∧ a = some ⟨g, 0, none⟩ ∧ w.cell? ⟨g, j, none⟩ = some u := by
  have hlt : j < vs.length := (List.getElem?_eq_some_iff.mp hj).1
  rcases h with ⟨_, rfl, _⟩ | ⟨g, cap, rfl, e, hg, h1, h2, h3, h4, h5⟩
  · simp at hlt
  · injection e with e1 e2 e3
    exact ⟨g, rfl, e1, by rw [h5 j hlt, hj]⟩
theorem run_append_val (w : World) (t ty e : TypeId) (i : TypeInfo) (z : Value) (ht : Tryz.prog.underlying t = some (.slice e)) (hi : Tryz.prog.info? e = some i) (hz0 : i.zero = some z) (hzc : z.cells.size = 1) (hz1 : i.size = 1) (hz2 : i.bytes ≤ 16)
    (v x u : Value) (vs : List Value) (r : Option Nat) (hown : OwnV w v vs r) (hs : Src Tryz.prog 1 t x 1 [u] w) (hlen : vs.length ≤ 4398046511104) :
    ∃ v' w' g, (Builtin.append_ #[t, t] ty #[v, x]).run Tryz.prog w = .ok v' w' ∧ OwnV w' v' (vs ++ [u]) (some g) ∧ w.grownBy w' r ∧ (some g = r ∨ g = w.heap.size) := by
  have hs' : Src Tryz.prog i.size t x 1 [u] w := by rw [hz1]; exact hs
  have hl2 : (vs ++ [u]).length = vs.length + 1 := by simp
  have grow : ∀ (base : Option Addr) (sCap : Nat), (Builtin.firstCells i.size vs.length (.slice base vs.length sCap)).run Tryz.prog w.drew = .ok vs.toArray w.drew → sCap < vs.length + 1 →
      ∃ v' w' g, (Builtin.append_ #[t, t] ty #[.slice base vs.length sCap, x]).run Tryz.prog w = .ok v' w' ∧ OwnV w' v' (vs ++ [u]) (some g) ∧ w.grownBy w' r ∧ (some g = r ∨ g = w.heap.size) := by
    intro base sCap hold hg
    have hfit : (vs.length + 1) * i.bytes ≤ 140737488355328 := Nat.le_trans (Nat.mul_le_mul_left _ hz2) (by omega)
    have hr := run_append_grow_src (P := Tryz.prog) w t t ty e i z ht hi hz0 base vs.length sCap vs hold x 1 [u] hs' hg (by omega) (growslice_fits hg hfit)
    have hge := grownCap_ge w (vs.length + 1) sCap e
    have hcm := grownCap_le_maxLen w (vs.length + 1) sCap e (by unfold maxLen; omega)
    refine ⟨_, _, w.heap.size, hr, ?_, ⟨rfl, rfl, rfl, by simp, fun k hk _ => heap_alloc_old w.drew _ hk⟩, .inr rfl⟩
    obtain ⟨C, hC⟩ : ∃ C, (vs ++ [u]).toArray ++ Builtin.zeroCells z.cells (grownCap w (vs.length + 1) sCap e - (vs.length + 1)) = C := ⟨_, rfl⟩
    have hCs : C.size = grownCap w (vs.length + 1) sCap e := by
      rw [← hC, Array.size_append, List.size_toArray, size_zeroCells, hzc, hl2]
      omega
    have hCg : ∀ j, j < vs.length + 1 → C[j]? = (vs ++ [u])[j]? := fun j hj => by
      rw [← hC, Array.getElem?_append_left (by rw [List.size_toArray, hl2]; exact hj), List.getElem?_toArray]
    rw [hC]
    refine .inr ⟨w.heap.size, grownCap w (vs.length + 1) sCap e, rfl, by rw [hl2], by simp, by rw [hl2]; exact hge, hcm, fun j hj => ?_, fun j hj => ?_, fun j hj => ?_⟩
    · exact World.frozen?_alloc_at _ _ _ _ rfl
    · show ((w.drew.alloc (Obj.cells C e)).cell? ⟨w.drew.heap.size, j, none⟩).isSome = true
      rw [World.cell?_alloc_at _ _ _ _ rfl, Array.getElem?_eq_getElem (by omega)]; rfl
    · rw [hl2] at hj
      show (w.drew.alloc (Obj.cells C e)).cell? ⟨w.drew.heap.size, j, none⟩ = _
      rw [World.cell?_alloc_at _ _ _ _ rfl]; exact hCg j hj
  rcases hown with ⟨rfl, rfl, rfl⟩ | ⟨g, cap, rfl, rfl, hg, h1, h2, h3, h4, h5⟩
  · exact grow none 0 (by rw [List.length_nil]; exact run_firstCells_none w.drew _ _ _ _) (by simp)
  · by_cases hroom : vs.length + 1 ≤ cap
    · have hr := run_append_room_src (P := Tryz.prog) w t t ty e i ht hi g 0 vs.length cap x 1 [u] hs' hroom
        (fun j hj => by rw [hz1]; simp at hj; subst hj; simpa using h4 vs.length (by omega))
        (fun j hj => by rw [hz1]; simp at hj; subst hj; simpa using h3 vs.length (by omega))
      rw [hz1, Nat.zero_add, Nat.mul_one] at hr
      refine ⟨_, _, g, hr, .inr ⟨g, cap, rfl, by rw [hl2], ?_, by omega, h2, fun j hj => ?_, fun j hj => ?_, fun j hj => ?_⟩, grow_setCells w g _ _, .inl rfl⟩
      · rw [setCells_size]; exact hg
      · rw [World.frozen?_setCells]; exact h3 j hj
      · exact isSome_setCells g _ _ w _ (h4 j hj)
      · rw [hl2] at hj
        by_cases hj' : j < vs.length
        · rw [World.cell?_setCells_out g _ _ w _ (fun _ _ => .inl hj'), h5 j hj', List.getElem?_append_left hj']
        · obtain rfl : j = vs.length := by omega
          have := World.cell?_setCells_in g [u] vs.length w (fun m hm => h4 _ (by simp at hm; omega)) 0 (by simp)
          rw [Nat.add_zero] at this
          rw [this]
          simp
    · refine grow _ cap ?_ (by omega)
      rw [hz1]
      refine run_firstCells_some w.drew 1 vs.length ⟨g, 0, none⟩ _ _ vs (by omega) (fun j u hj => ?_)
      have hjl : j < vs.length := (List.getElem?_eq_some_iff.mp hj).1
      rw [WideShapes.add_plain, Nat.zero_add]
      show w.cell? ⟨g, j, none⟩ = some u
      rw [h5 j hjl, hj]
theorem wpList_append_val {ops : Array Oper} {rest : List Oper} {o : Oper} {a : Act} {Q : Exit → Act → World → Prop} (w : World) (hgd : o.guard = none) (s x : Operand) (t e : TypeId) (i : TypeInfo) (z : Value)
    (ho : o.op = .call { callee := .builtin .append, args := #[s, x], argTypes := #[t, t] }) (ht : Tryz.prog.underlying t = some (.slice e)) (hi : Tryz.prog.info? e = some i) (hz0 : i.zero = some z) (hzc : z.cells.size = 1) (hz1 : i.size = 1) (hz2 : i.bytes ≤ 16)
    (v xv u : Value) (vs : List Value) (r : Option Nat)
    (hs : a.eval s = v) (hx : a.eval x = xv) (hown : OwnV w v vs r) (hsrc : Src Tryz.prog 1 t xv 1 [u] w) (hlen : vs.length ≤ 4398046511104)
    (h : ∀ v' w' g, OwnV w' v' (vs ++ [u]) (some g) → w.grownBy w' r → (some g = r ∨ g = w.heap.size) → wpList Tryz.prog ops Q rest (a.put o.dst v') w') : wpList Tryz.prog ops Q (o :: rest) a w :=
  wpList_plain hgd fun _ hK => by
    obtain ⟨v', w', g, hr, h1, h2, h3⟩ := run_append_val w t o.type e i z ht hi hz0 hzc hz1 hz2 v xv u vs r hown hsrc hlen
    unfold Oper.wp execOp
    simp only [ho, resolve, invoke, builtin, Sem.run_bind, Sem.run_pure, Result.andThen_ok, List.map_toArray, List.map_cons, List.map_nil, hs, hx, hr]
    exact hK _ _ (h v' w' g h1 h2 h3)
theorem src_val (w : World) (u : Value) (hu : u.oneCell' = true) (t e ty : TypeId) (ht : Tryz.prog.underlying t = some (.slice e)) : Src Tryz.prog 1 t (.slice (some ⟨w.heap.size, 0, none⟩) 1 1) 1 [u] (w.alloc (.cells #[u] ty)) :=
  Src.ofSlice _ ht _ 1 1 _ (by simp) (fun j x hj => by
    rw [WideShapes.add_plain, World.cell?_alloc_at _ _ _ _ rfl, Nat.zero_add]
    rw [← hj]; simp) (fun x hx => by rw [List.mem_singleton] at hx; subst hx; exact hu)
theorem src_val' (w : World) (b : Nat) (hb : w.heap.size = b) (u : Value) (hu : u.oneCell' = true) (t e ty : TypeId) (ht : Tryz.prog.underlying t = some (.slice e)) : Src Tryz.prog 1 t (.slice (some ⟨b, 0, none⟩) 1 1) 1 [u] (w.alloc (.cells #[u] ty)) := by
  subst hb
  exact src_val w u hu t e ty ht
end Go.Proofs.YthcnhjmkcekdaaaGreat
