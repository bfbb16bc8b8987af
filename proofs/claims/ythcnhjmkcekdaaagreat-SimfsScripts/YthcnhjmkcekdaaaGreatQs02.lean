import Derived.Test.YthcnhjmkcekdaaaGreatQs01
import Derived.Maps.OwnSet
import Derived.Maps.OwnOps
import Derived.Maps.Views
import Derived.Sort.KeysCollected
import Derived.Deep.LoopGhost
import Derived.Deep.RegionWith
import Derived.BigRegion
namespace Go.Proofs.YthcnhjmkcekdaaaGreat
open Go.RowKit Go.Maps Plain
set_option linter.unusedVariables false
/-- A name's bytes. -/
abbrev Nm := List UInt8
/-- How a pointer in the directory reads: as its block's number. -/
def Rp (v : Value) : Option (DataW Unit × List MemPlace) := match v with
  | .pointer none => some (.nil, [])
  | .pointer (some ⟨g, 0, none⟩) => some (.lit (.int .i64 (g : Int)), [])
  | _ => none
theorem Rp_inv {v : Value} {d : DataW Unit} {ps : List MemPlace} (h : Rp v = some (d, ps)) : (v = .pointer none ∧ d = .nil) ∨ ∃ g : Nat, v = .pointer (some ⟨g, 0, none⟩) ∧ d = .lit (.int .i64 (g : Int)) := by
  unfold Rp at h
  split at h
  · simp at h; exact .inl ⟨rfl, h.1.symm⟩
  · simp at h; exact .inr ⟨_, rfl, h.1.symm⟩
  · simp at h
/-- Names and the files that they lead to. -/
abbrev Dir := List (Nm × Nat)
def dent (p : Nm × Nat) : Lit × DataW Unit := (.string p.1, .lit (.int .i64 (p.2 : Int)))
def toD (L : Dir) : DataW Unit := .map (L.map dent)
def look (L : Dir) (k : Nm) : Option Nat := (L.find? fun p => p.1 == k).map (·.2)
def ins (x : Nm × Nat) : Dir → Dir
  | [] => [x]
  | y :: r => if (Lit.string x.1).before (.string y.1) then x :: y :: r else y :: ins x r
def del (L : Dir) (k : Nm) : Dir := L.filter fun p => !(p.1 == k)
def put (L : Dir) (k : Nm) (g : Nat) : Dir := ins (k, g) (del L k)
theorem toD_insert (x : Nm × Nat) : ∀ L : Dir, DataW.insert (dent x) (L.map dent) = (ins x L).map dent
  | [] => rfl
  | y :: r => by
    simp only [List.map_cons, DataW.insert, ins]
    by_cases h : (Lit.string x.1).before (.string y.1) = true
    · have h' : (dent x).1.before (dent y).1 = true := h
      rw [if_pos h', if_pos h]; rfl
    · have h' : ¬ (dent x).1.before (dent y).1 = true := h
      rw [if_neg h', if_neg h, toD_insert x r]; rfl
theorem toD_filter (L : Dir) (k : Nm) : (L.map dent).filter (fun p => !p.1.sameKey (.string k)) = (del L k).map dent := by
  unfold del
  rw [List.filter_map]
  rfl
theorem toD_put (L : Dir) (k : Nm) (g : Nat) : (toD L).put (.string k) (.lit (.int .i64 (g : Int))) = toD (put L k g) := by
  unfold toD put
  rw [← toD_insert, ← toD_filter]
  rfl
theorem toD_del (L : Dir) (k : Nm) : (toD L).del (.string k) = toD (del L k) := by
  unfold toD
  rw [← toD_filter]
  rfl
theorem toD_at (L : Dir) (k : Nm) : (toD L).atKey (.string k) .nil = match look L k with
    | some g => .lit (.int .i64 (g : Int))
    | none => .nil := by
  unfold toD DataW.atKey look
  simp only
  induction L with
  | nil => rfl
  | cons p L ih =>
    by_cases h : p.1 == k
    · rw [List.map_cons, List.find?_cons_of_pos (by exact h), List.find?_cons_of_pos (by exact h)]
      rfl
    · rw [List.map_cons, List.find?_cons_of_neg (by exact h), List.find?_cons_of_neg (by exact h)]
      exact ih
theorem toD_size (L : Dir) : Maps.size (toD L) = L.length := by simp [toD, Maps.size_eq]
theorem toD_keys (L : Dir) : strKeys (toD L) = L.map (·.1) := by
  show (L.map dent).map (fun p => strOf p.1) = _
  rw [List.map_map]
  rfl
theorem tight {w : World} {b n : Nat} {D : DataW Unit} (h : w.ownsMap Tryz.prog 9 Rp b n D) : w.ownsMap Tryz.prog 9 Rp b (Maps.size D) D := by
  obtain ⟨es, clock, hb, F, hs, rfl⟩ := h
  exact ⟨es, clock, hb, F, by simp [Maps.size, length_sorted], rfl⟩
/-- Block b is the directory L. -/
def MapAt (w : World) (b : Nat) (L : Dir) : Prop := w.ownsMap Tryz.prog 9 Rp b L.length (toD L)
theorem keyed9 : Keyed Tryz.prog 9 := string_keyed Tryz.underlying9
theorem MapAt.lt {w : World} {b : Nat} {L : Dir} (h : MapAt w b L) : b < w.heap.size := World.ownsMap.lt h
theorem MapAt.of_block {w w' : World} {b : Nat} {L : Dir} (h : MapAt w b L) (hb : w'.heap[b]? = w.heap[b]?) : MapAt w' b L := by
  obtain ⟨es, clock, h1, h2⟩ := h
  exact ⟨es, clock, hb.trans h1, h2⟩
theorem MapAt.made (w : World) : MapAt (w.alloc (.map #[] 0)) w.heap.size [] := World.ownsMap_made w _ _ _
theorem key_str (s : ByteArray) (hs : s.size ≤ maxLen) : keyOf Tryz.prog 9 (.string s) = some (.string s.data.toList) := Go.WideMaps.keyOf_string_mk Tryz.underlying9 hs
end Go.Proofs.YthcnhjmkcekdaaaGreat

namespace Go.Proofs.YthcnhjmkcekdaaaGreat
open Go.RowKit Plain
set_option maxRecDepth 100000
theorem methAdd (v : Value) (W : World) : (method 293 134 v "chronicle/simfs.onto").run Tryz.prog W = .ok (130, v) W := by kernel_rfl
theorem methTru (v : Value) (W : World) : (method 293 136 v "chronicle/simfs.onto").run Tryz.prog W = .ok (132, v) W := by kernel_rfl
theorem methAddT (v : Value) (W : World) : (method 293 134 v "chronicle/simfs.torn").run Tryz.prog W = .ok (131, v) W := by kernel_rfl
theorem methTruT (v : Value) (W : World) : (method 293 136 v "chronicle/simfs.torn").run Tryz.prog W = .ok (133, v) W := by kernel_rfl
theorem methCre (v : Value) (W : World) : (method 293 77 v "chronicle/simfs.onto").run Tryz.prog W = .ok (129, v) W := by kernel_rfl
theorem methRen (v : Value) (W : World) : (method 293 138 v "chronicle/simfs.onto").run Tryz.prog W = .ok (134, v) W := by kernel_rfl
theorem methRem (v : Value) (W : World) : (method 293 140 v "chronicle/simfs.onto").run Tryz.prog W = .ok (135, v) W := by kernel_rfl
end Go.Proofs.YthcnhjmkcekdaaaGreat

namespace Go.Proofs.YthcnhjmkcekdaaaGreat
open Go.RowKit Go.Maps Plain
set_option linter.unusedVariables false
set_option linter.unusedSimpArgs false
/-- A change of a file: bytes behind, or a cut. -/
def FC : Type := List Nat ⊕ Nat
def FC.add (b : List Nat) : FC := Sum.inl b
def FC.cut (n : Nat) : FC := Sum.inr n
theorem FC.elim {motive : FC → Prop} (add : ∀ b, motive (FC.add b)) (cut : ∀ n, motive (FC.cut n)) (c : FC) : motive c := by
  rcases c with b | n
  · exact add b
  · exact cut n
def FC.on (s : List Nat) (c : FC) : List Nat := Sum.elim (fun b => s ++ b) (fun n => s.take n) c
theorem FC.on_add (s b : List Nat) : FC.on s (FC.add b) = s ++ b := rfl
theorem FC.on_cut (s : List Nat) (n : Nat) : FC.on s (FC.cut n) = s.take n := rfl
/-- A change's value: a slice of its own bytes, or a number. -/
def ChOne (w : World) (c : FC) (x : Value) (q : Option Nat) : Prop :=
  Sum.elim (fun b => ∃ v, x = .iface 134 (.agg #[v]) ∧ Own w v b q) (fun n => x = .iface 136 (.agg #[.int .i64 ((n : Nat) : Int)])) c
theorem ChOne.add {w : World} {b : List Nat} {x : Value} {q : Option Nat} : ChOne w (FC.add b) x q ↔ ∃ v, x = .iface 134 (.agg #[v]) ∧ Own w v b q := Iff.rfl
theorem ChOne.cut {w : World} {n : Nat} {x : Value} {q : Option Nat} : ChOne w (FC.cut n) x q ↔ x = .iface 136 (.agg #[.int .i64 ((n : Nat) : Int)]) := Iff.rfl
theorem ChOne.of_block {w w' : World} {c : FC} {x : Value} {q : Option Nat} (h : ChOne w c x q) (hs : w.heap.size ≤ w'.heap.size) (hb : ∀ g, q = some g → w'.heap[g]? = w.heap[g]?) : ChOne w' c x q := by
  cases c using FC.elim with
  | add b =>
    obtain ⟨v, h1, h2⟩ := ChOne.add.mp h
    exact ChOne.add.mpr ⟨v, h1, h2.of_block hs hb⟩
  | cut n => exact h
/-- The states of a file along its changes. -/
def fst (s : List Nat) (cs : List FC) : List Nat := cs.foldl FC.on s
theorem fst_snoc (s : List Nat) (cs : List FC) (c : FC) : fst s (cs ++ [c]) = FC.on (fst s cs) c := by simp [fst]
theorem fst_take (s : List Nat) (cs : List FC) (k : Nat) (c : FC) (h : cs[k]? = some c) : fst s (cs.take (k + 1)) = FC.on (fst s (cs.take k)) c := by
  obtain ⟨hk, e⟩ := List.getElem?_eq_some_iff.mp h
  rw [List.take_succ_eq_append_getElem hk, e, fst_snoc]
/-- A row of changes: the values, and the block of each one's bytes. -/
structure ChRow (w : World) (vc : Value) (cs : List FC) (rc : Option Nat) (vals : List Value) (blk : Nat → Option Nat) : Prop where
  row : OwnV w vc vals rc
  len : vals.length = cs.length
  one : ∀ (j : Nat) (c : FC), cs[j]? = some c → ∃ x, vals[j]? = some x ∧ ChOne w c x (blk j)
  bl : ∀ j g, blk j = some g → g < w.heap.size
theorem ChRow.of_block {w w' : World} {vc : Value} {cs : List FC} {rc : Option Nat} {vals : List Value} {blk : Nat → Option Nat} (h : ChRow w vc cs rc vals blk) (hs : w.heap.size ≤ w'.heap.size) (h1 : ∀ g, rc = some g → w'.heap[g]? = w.heap[g]?) (h2 : ∀ j g, blk j = some g → w'.heap[g]? = w.heap[g]?) : ChRow w' vc cs rc vals blk :=
  ⟨h.row.of_block hs h1, h.len, fun j c hc => by
    obtain ⟨x, e1, e2⟩ := h.one j c hc
    exact ⟨x, e1, e2.of_block hs (h2 j)⟩, fun j g e => Nat.lt_of_lt_of_le (h.bl j g e) hs⟩
theorem own_cap {w : World} {a : Option Addr} {n c : Nat} {l : List Nat} {r : Option Nat} (h : Own w (.slice a n c) l r) : n ≤ c ∧ c ≤ 2 ^ 63 - 1 := by
  rcases h.2 with ⟨e, h1, _⟩ | ⟨g, cap', _, e, _, h1, h2, _⟩
  · injection e with _ e1 e2; omega
  · injection e with _ e1 e2; unfold maxLen at h2; omega
theorem own_len {w : World} {a : Option Addr} {n c : Nat} {l : List Nat} {r : Option Nat} (h : Own w (.slice a n c) l r) : l.length = n := by
  rcases h.2 with ⟨e, h1, _⟩ | ⟨g, cap', _, e, _⟩
  · injection e with _ e1 e2; rw [h1, e1]; rfl
  · injection e with _ e1 e2; exact e1.symm
set_option maxRecDepth 1000000 in
theorem addOntoOf (ab : Option Addr) (nb cb : Nat) (b : List Nat) (st : Value) (s : List Nat) (r : Option Nat) (w : World) (hb : BytesAt w (.slice ab nb cb) b) (ho : Own w st s r) (hlen : s.length + b.length ≤ 140737488355328) :
    Calls Tryz.prog 130 #[.agg #[.slice ab nb cb], st] w fun e w' => ∃ a' n' c' r', e = .returned (.slice a' n' c') ∧ Own w' (.slice a' n' c') (s ++ b) r' ∧ w.grownBy w' r ∧ (r' = r ∨ ∃ g, r' = some g ∧ w.heap.size ≤ g) := by
  have HB : Hid (BytesAt w (.slice ab nb cb) b) := hb
  have HO : Hid (Own w st s r) := ho
  clear hb ho
  go_enter Tryz.func130, Tryz.ntmps130
  go_wp2_with (at_builtin; refine wpList_append_row _ rfl _ _ 34 34 rfl Tryz.underlying34 _ _ s b r rfl rfl ?hOwn ?hByte ?hSrc ?hLen ?_)
  case hOwn => exact HO.out.later ((Below.refl _ _).alloc (Nat.le_refl _) _)
  case hByte => exact HB.out.byte
  case hSrc => exact src_of Tryz.underlying34 (HB.out.later ((Below.refl _ _).alloc (Nat.le_refl _) _))
  case hLen => exact hlen
  intro v' w3 r3 ho3 hg3 hr3 hn3
  obtain ⟨a3, n3, c3, rfl⟩ : ∃ a3 n3 c3, v' = .slice a3 n3 c3 := by
    rcases ho3.2 with ⟨e, _⟩ | ⟨_, _, _, e, _⟩
    · exact ⟨_, _, _, e⟩
    · exact ⟨_, _, _, e⟩
  have HE : Hid (Own w3 (.slice a3 n3 c3) (s ++ b) r3 ∧ w.grownBy w3 r ∧ (r3 = r ∨ ∃ g, r3 = some g ∧ w.heap.size ≤ g)) := by
    refine ⟨ho3, grow_trans (World.grownBy_alloc _ _ r) hg3 (.inl rfl), ?_⟩
    rcases hr3 with e | e
    · exact .inl e
    · exact .inr ⟨_, e, by simp⟩
  clear ho3 hg3 hr3 hn3
  go_wp2
  go_ret
  exact ⟨a3, n3, c3, r3, rfl, HE.out⟩
set_option maxHeartbeats 2000000 in
set_option maxRecDepth 1000000 in
/-- What 'after' makes of a row of its own. -/
theorem afterFile (v vc : Value) (s : List Nat) (r rc : Option Nat) (cs : List FC) (vals : List Value) (blk : Nat → Option Nat) (w : World) (ho : Own w v s r) (hc : ChRow w vc cs rc vals blk) (hr : ∀ g, r = some g → rc ≠ some g ∧ ∀ j, blk j ≠ some g)
    (hcut : ∀ k n, cs[k]? = some (FC.cut n) → n ≤ (fst s (cs.take k)).length) (hlen : ∀ k, (fst s (cs.take k)).length ≤ 70368744177664) (hcs : cs.length ≤ 4398046511104) :
    Calls Tryz.prog 87 #[v, vc] w fun e w' => ∃ v' r', e = .returned v' ∧ Own w' v' (fst s cs) r' ∧ w.grownBy w' r ∧ (r' = r ∨ ∃ g, r' = some g ∧ w.heap.size ≤ g) := by
  have HO : Hid (Own w v s r) := ho
  have HC : Hid (ChRow w vc cs rc vals blk) := hc
  have HR : Hid (∀ g, r = some g → rc ≠ some g ∧ ∀ j, blk j ≠ some g) := hr
  have HCU : Hid (∀ k n, cs[k]? = some (FC.cut n) → n ≤ (fst s (cs.take k)).length) := hcut
  have HL : Hid (∀ k, (fst s (cs.take k)).length ≤ 70368744177664) := hlen
  obtain ⟨a, cap, rfl, hcm, hlc⟩ := hc.row.shape
  unfold maxLen at hcm
  rw [hc.len] at hlc ⊢
  have HLN : Hid (vals.length = cs.length) := hc.len
  obtain ⟨av, cv, rfl⟩ : ∃ av cv, v = .slice av s.length cv := by
    rcases ho.2 with ⟨e, e2, _⟩ | ⟨g, cap', _, e, _⟩
    · exact ⟨none, 0, by rw [e, e2]; rfl⟩
    · exact ⟨_, cap', e⟩
  clear ho hc hr hcut hlen
  go_enter Tryz.func87, Tryz.ntmps87
  go_wp2
  go_loopg [0, 9] cs.length (fun gk s0 s9 wx => ∃ (k n0 c0 : Nat) (a0 : Option Addr) (r0 : Option Nat), k + gk = cs.length ∧ s9 = .int .i64 k ∧ s0 = .slice a0 n0 c0 ∧ n0 ≤ c0 ∧ c0 ≤ 2 ^ 63 - 1 ∧ Hid (Own wx (.slice a0 n0 c0) (fst s (cs.take k)) r0 ∧ (fst s (cs.take k)).length = n0 ∧ w.grownBy wx r ∧ (r0 = r ∨ ∃ g, r0 = some g ∧ w.heap.size ≤ g)))
  case atStart =>
    obtain ⟨c1, c2⟩ := own_cap HO.out
    exact ⟨0, s.length, cv, av, r, by omega, rfl, rfl, c1, c2, by simpa [fst] using HO.out, by simp [fst], below_grow (Below.refl _ _) _, .inl rfl⟩
  case round =>
    obtain ⟨k, n0, c0, a0, r0, hkg, rfl, rfl, hn0, hc0, HI⟩ := hrel
    cases gk with
    | zero =>
      obtain rfl : k = cs.length := by omega
      go_wp2
      go_ret
      have h1 := HI.out
      rw [List.take_length] at h1
      exact ⟨_, r0, rfl, h1.1, h1.2.2.1, h1.2.2.2⟩
    | succ gk1 =>
      have hk : k < cs.length := by omega
      obtain ⟨c, hck⟩ : ∃ c, cs[k]? = some c := ⟨_, List.getElem?_eq_getElem hk⟩
      have hC2 : ChRow wr (.slice a vals.length cap) cs rc vals blk := HC.out.of_block HI.out.2.2.1.size
        (fun g e => HI.out.2.2.1.block g (by have := HC.out.row; rw [e] at this; exact this.lt) (fun e2 => (HR.out g e2.symm).1 e))
        (fun j g e => HI.out.2.2.1.block g (HC.out.bl j g e) (fun e2 => (HR.out g e2.symm).2 j e))
      obtain ⟨x, hx, hone⟩ := hC2.one k c hck
      obtain ⟨gc, hrc, hac, hcell⟩ := hC2.row.get hx
      subst hac
      have HST : Hid (fst s (cs.take (k + 1)) = FC.on (fst s (cs.take k)) c) := fst_take s cs k c hck
      have HLK : Hid ((fst s (cs.take k)).length ≤ 70368744177664 ∧ (fst s (cs.take (k + 1))).length ≤ 70368744177664) := ⟨HL.out k, HL.out (k + 1)⟩
      cases c using FC.elim with
      | add b =>
        obtain ⟨v, rfl, hov⟩ := ChOne.add.mp hone
        obtain ⟨ab, nb, cb, rfl⟩ : ∃ ab nb cb, v = .slice ab nb cb := by
          rcases hov.2 with ⟨e, _⟩ | ⟨_, _, _, e, _⟩
          · exact ⟨_, _, _, e⟩
          · exact ⟨_, _, _, e⟩
        have HB : Hid (BytesAt wr (.slice ab nb cb) b) := hov.bytes
        rw [FC.on_add] at HST
        have HW : Hid (Own wr (.slice a0 n0 c0) (fst s (cs.take k)) r0 ∧ w.grownBy wr r ∧ (r0 = r ∨ ∃ g, r0 = some g ∧ w.heap.size ≤ g)) := ⟨HI.out.1, HI.out.2.2.1, HI.out.2.2.2⟩
        generalize fst s (cs.take k) = X at HST HLK HW
        clear HI hone hov hC2 hx hck
        have hm := methAdd (.agg #[.slice ab nb cb]) wr
        go_wp2_with fail
        refine (addOntoOf ab nb cb b _ X r0 wr HB.out HW.out.1 (by have h1 := HLK.out.2; rw [HST.out, List.length_append] at h1; omega)).mono ?_
        rintro e w3 ⟨a3, n3, c3, r3, rfl, ho3, hg3, hr3⟩
        obtain ⟨q1, q2⟩ := own_cap ho3
        have HN : Hid (Own w3 (.slice a3 n3 c3) (fst s (cs.take (k + 1))) r3 ∧ (fst s (cs.take (k + 1))).length = n3 ∧ w.grownBy w3 r ∧ (r3 = r ∨ ∃ g, r3 = some g ∧ w.heap.size ≤ g)) := by
          have hsz := HW.out.2.1.size
          unfold Hid
          rw [HST.out]
          refine ⟨ho3, own_len ho3, grow_trans HW.out.2.1 hg3 ?_, ?_⟩
          · rcases HW.out.2.2 with h | h
            · exact .inl h
            · exact .inr (.inr h)
          · rcases hr3 with e | ⟨g, e, e2⟩
            · rw [e]; exact HW.out.2.2
            · exact .inr ⟨g, e, by omega⟩
        clear ho3 hg3 hr3 hm
        go_wp2
        go_roundg gk1
        case measure => omega
        case rel => exact ⟨k + 1, n3, c3, a3, r3, by omega, by go_num, rfl, q1, q2, HN.out⟩
      | cut n =>
        rw [ChOne.cut] at hone
        subst hone
        have hn : n ≤ n0 := by have := HCU.out k n hck; have := HI.out.2.1; omega
        rw [FC.on_cut] at HST
        have HN : Hid (∀ W, Below wr.heap.size wr W → Own W (.slice a0 n c0) (fst s (cs.take (k + 1))) r0 ∧ (fst s (cs.take (k + 1))).length = n ∧ w.grownBy W r ∧ (r0 = r ∨ ∃ g, r0 = some g ∧ w.heap.size ≤ g)) := fun W hW => by
          rw [HST.out]
          have hl := HI.out.2.1
          exact ⟨(HI.out.1.take n (by omega)).later hW, by rw [List.length_take]; omega, grow_trans HI.out.2.2.1 (below_grow hW none) (.inr (.inl rfl)), HI.out.2.2.2⟩
        clear HI hC2 hx hck
        have hm := methTru (.agg #[.int .i64 ((n : Nat) : Int)]) wr
        go_wp2
        go_roundg gk1
        case measure => omega
        case rel => exact ⟨k + 1, n, c0, a0, r0, by omega, by go_num, rfl, by omega, hc0, HN.out _ ((Below.refl _ _).alloc (Nat.le_refl _) _)⟩
end Go.Proofs.YthcnhjmkcekdaaaGreat

namespace Go.Proofs.YthcnhjmkcekdaaaGreat
open Go.RowKit Go.Maps Plain
set_option linter.unusedVariables false
set_option linter.unusedSimpArgs false
/-- Of the blocks that were there only those of S have turned. -/
structure Chg (S : Nat → Prop) (w w' : World) : Prop where
  os : w'.os = w.os
  tape : w'.tape = w.tape
  output : w'.output = w.output
  size : w.heap.size ≤ w'.heap.size
  block : ∀ k, k < w.heap.size → ¬ S k → w'.heap[k]? = w.heap[k]?
theorem Chg.refl (S : Nat → Prop) (w : World) : Chg S w w := ⟨rfl, rfl, rfl, Nat.le_refl _, fun _ _ _ => rfl⟩
theorem Chg.grown {S : Nat → Prop} {a b c : World} {r : Option Nat} (h : Chg S a b) (k : b.grownBy c r) (hr : ∀ g, r = some g → S g ∨ a.heap.size ≤ g) : Chg S a c :=
  ⟨k.os.trans h.os, k.tape.trans h.tape, k.output.trans h.output, Nat.le_trans h.size k.size, fun i hi hs => by
    rw [k.block i (Nat.lt_of_lt_of_le hi h.size) (fun e => by
      rcases hr i e.symm with h1 | h1
      · exact hs h1
      · omega)]
    exact h.block i hi hs⟩
theorem Chg.more {S : Nat → Prop} {a b c : World} (h : Chg S a b) (k : Below b.heap.size b c) : Chg S a c := h.grown (below_grow k none) (by simp)
theorem Chg.ofBelow {S : Nat → Prop} {a b : World} (k : Below a.heap.size a b) : Chg S a b := (Chg.refl S a).more k
theorem Chg.trans {S : Nat → Prop} {a b c : World} (h : Chg S a b) (k : Chg S b c) : Chg S a c :=
  ⟨k.os.trans h.os, k.tape.trans h.tape, k.output.trans h.output, Nat.le_trans h.size k.size, fun i hi hs => (k.block i (Nat.lt_of_lt_of_le hi h.size) hs).trans (h.block i hi hs)⟩
theorem Chg.mono {S T : Nat → Prop} {a b : World} (h : Chg S a b) (hs : ∀ k, S k → T k) : Chg T a b := ⟨h.os, h.tape, h.output, h.size, fun k hk hn => h.block k hk (fun e => hn (hs k e))⟩
theorem Chg.below {S : Nat → Prop} {w w' : World} {B : Nat} (h : Chg S w w') (hB : B ≤ w.heap.size) (hS : ∀ k, S k → B ≤ k) : Below B w w' :=
  ⟨h.os, h.tape, h.output, h.size, fun k hk => h.block k (by omega) (fun hs => by have := hS k hs; omega)⟩
/-- A footprint that has grown by new memory. -/
def Ext (S : Nat → Prop) (w w' : World) : Nat → Prop := fun k => S k ∨ (w.heap.size ≤ k ∧ k < w'.heap.size)
structure Fl where
  seen : List Nat
  dur : List Nat
  chg : List FC
/-- What is true of a file's states. -/
structure Fl.Ok (f : Fl) : Prop where
  eq : f.seen = fst f.dur f.chg
  cut : ∀ k n, f.chg[k]? = some (FC.cut n) → n ≤ (fst f.dur (f.chg.take k)).length
  len : ∀ k, (fst f.dur (f.chg.take k)).length ≤ 70368744177664
  cnt : f.chg.length ≤ 4398046511103
/-- A file in memory. -/
structure FileM (w : World) (G : Nat) (f : Fl) (vs vd vc : Value) (rs rd rc : Option Nat) (vals : List Value) (blk : Nat → Option Nat) : Prop where
  blkG : w.heap[G]? = some (.cells #[vs, vd, vc] 124)
  seen : Own w vs f.seen rs
  dur : Own w vd f.dur rd
  chg : ChRow w vc f.chg rc vals blk
  sepS : ∀ g, rs = some g → g ≠ G ∧ rd ≠ some g ∧ rc ≠ some g ∧ ∀ j, blk j ≠ some g
  sepD : ∀ g, rd = some g → g ≠ G ∧ rc ≠ some g ∧ ∀ j, blk j ≠ some g
  sepC : ∀ g, rc = some g → g ≠ G ∧ ∀ j, blk j ≠ some g
  sepB : ∀ j g, blk j = some g → g ≠ G
def footF (G : Nat) (rs rd rc : Option Nat) (blk : Nat → Option Nat) : Nat → Prop := fun k => k = G ∨ rs = some k ∨ rd = some k ∨ rc = some k ∨ ∃ j, blk j = some k
def FileAt (w : World) (G : Nat) (f : Fl) (S : Nat → Prop) : Prop := ∃ vs vd vc rs rd rc vals blk, FileM w G f vs vd vc rs rd rc vals blk ∧ (∀ k, footF G rs rd rc blk k → S k) ∧ ∀ k, S k → k < w.heap.size
theorem FileM.frame {w w' : World} {G : Nat} {f : Fl} {vs vd vc : Value} {rs rd rc : Option Nat} {vals : List Value} {blk : Nat → Option Nat} (h : FileM w G f vs vd vc rs rd rc vals blk) (hs : w.heap.size ≤ w'.heap.size) (hb : ∀ k, footF G rs rd rc blk k → w'.heap[k]? = w.heap[k]?) : FileM w' G f vs vd vc rs rd rc vals blk :=
  ⟨(hb G (.inl rfl)).trans h.blkG, h.seen.of_block hs (fun g e => hb g (.inr (.inl e))), h.dur.of_block hs (fun g e => hb g (.inr (.inr (.inl e)))),
    h.chg.of_block hs (fun g e => hb g (.inr (.inr (.inr (.inl e))))) (fun j g e => hb g (.inr (.inr (.inr (.inr ⟨j, e⟩))))), h.sepS, h.sepD, h.sepC, h.sepB⟩
theorem FileAt.frame {w w' : World} {G : Nat} {f : Fl} {S : Nat → Prop} (h : FileAt w G f S) (hs : w.heap.size ≤ w'.heap.size) (hb : ∀ k, S k → w'.heap[k]? = w.heap[k]?) : FileAt w' G f S := by
  obtain ⟨vs, vd, vc, rs, rd, rc, vals, blk, h1, h2, h3⟩ := h
  exact ⟨vs, vd, vc, rs, rd, rc, vals, blk, h1.frame hs (fun k hk => hb k (h2 k hk)), h2, fun k hk => Nat.lt_of_lt_of_le (h3 k hk) hs⟩
/-- A change of the directory: a name for a new file, a name in another's place, a name gone. -/
def DC : Type := (Nm × Nat) ⊕ ((Nm × Nm) ⊕ Nm)
def DC.mk (k : Nm) (g : Nat) : DC := Sum.inl (k, g)
def DC.mv (a b : Nm) : DC := Sum.inr (Sum.inl (a, b))
def DC.rm (k : Nm) : DC := Sum.inr (Sum.inr k)
theorem DC.elim {motive : DC → Prop} (mk : ∀ k g, motive (DC.mk k g)) (mv : ∀ a b, motive (DC.mv a b)) (rm : ∀ k, motive (DC.rm k)) (c : DC) : motive c := by
  rcases c with ⟨k, g⟩ | ⟨a, b⟩ | k
  · exact mk k g
  · exact mv a b
  · exact rm k
def DC.on (L : Dir) (c : DC) : Dir := Sum.elim (fun p => put L p.1 p.2) (Sum.elim (fun p => (look L p.1).elim L fun g => del (put L p.2 g) p.1) (fun k => del L k)) c
theorem DC.on_mk (L : Dir) (k : Nm) (g : Nat) : DC.on L (DC.mk k g) = put L k g := rfl
theorem DC.on_mv (L : Dir) (a b : Nm) : DC.on L (DC.mv a b) = (look L a).elim L fun g => del (put L b g) a := rfl
theorem DC.on_rm (L : Dir) (k : Nm) : DC.on L (DC.rm k) = del L k := rfl
def str (k : Nm) : ByteArray := ⟨k.toArray⟩
theorem str_list (k : Nm) : (str k).data.toList = k := by simp [str]
theorem str_of (s : ByteArray) : str s.data.toList = s := by cases s; simp [str]
/-- The value of a change of the directory. -/
def DC.val (c : DC) : Value := Sum.elim (fun p => .iface 77 (.agg #[.string (str p.1), .pointer (some ⟨p.2, 0, none⟩)])) (Sum.elim (fun p => .iface 138 (.agg #[.string (str p.1), .string (str p.2)])) (fun k => .iface 140 (.agg #[.string (str k)]))) c
theorem DC.val_mk (k : Nm) (g : Nat) : (DC.mk k g).val = .iface 77 (.agg #[.string (str k), .pointer (some ⟨g, 0, none⟩)]) := rfl
theorem DC.val_mv (a b : Nm) : (DC.mv a b).val = .iface 138 (.agg #[.string (str a), .string (str b)]) := rfl
theorem DC.val_rm (k : Nm) : (DC.rm k).val = .iface 140 (.agg #[.string (str k)]) := rfl
def dst (L : Dir) (cs : List DC) : Dir := cs.foldl DC.on L
theorem dst_snoc (L : Dir) (cs : List DC) (c : DC) : dst L (cs ++ [c]) = DC.on (dst L cs) c := by simp [dst]
theorem dst_take (L : Dir) (cs : List DC) (k : Nat) (c : DC) (h : cs[k]? = some c) : dst L (cs.take (k + 1)) = DC.on (dst L (cs.take k)) c := by
  obtain ⟨hk, e⟩ := List.getElem?_eq_some_iff.mp h
  rw [List.take_succ_eq_append_getElem hk, e, dst_snoc]
/-- A disk. -/
structure Dk where
  L : Dir
  Ld : Dir
  chg : List DC
  used : Int
  quota : Int
  ops : Int
  fused : Bool
  left : Int
  dead : Bool
  file : Nat → Fl
  live : Nat → Prop
def MapO (w : World) (m : Option Nat) (L : Dir) : Prop := (m = none ∧ L = []) ∨ ∃ b, m = some b ∧ MapAt w b L
theorem MapO.of_block {w w' : World} {m : Option Nat} {L : Dir} (h : MapO w m L) (hb : ∀ b, m = some b → w'.heap[b]? = w.heap[b]?) : MapO w' m L := by
  rcases h with h | ⟨b, e, h⟩
  · exact .inl h
  · exact .inr ⟨b, e, h.of_block (hb b e)⟩
theorem MapO.lt {w : World} {b : Nat} {L : Dir} (h : MapO w (some b) L) : b < w.heap.size := by
  rcases h with ⟨e, _⟩ | ⟨b', e, h⟩
  · simp at e
  · simp at e; subst e; exact h.lt
structure DiskM (w : World) (d : Nat) (k : Dk) (ms md : Option Nat) (vc : Value) (rc : Option Nat) (Sf : Nat → Nat → Prop) : Prop where
  cells : w.heap[d]? = some (.cells #[.map ms, .map md, vc, .int .i64 k.used, .int .i64 k.quota, .int .i64 k.ops, .bool k.fused, .int .i64 k.left, .bool k.dead] 70)
  seen : MapO w ms k.L
  dur : MapO w md k.Ld
  chg : OwnV w vc (k.chg.map DC.val) rc
  files : ∀ G, k.live G → FileAt w G (k.file G) (Sf G)
  sepS : ∀ b, ms = some b → b ≠ d ∧ md ≠ some b ∧ rc ≠ some b
  sepD : ∀ b, md = some b → b ≠ d ∧ rc ≠ some b
  sepC : ∀ b, rc = some b → b ≠ d
  sepF : ∀ G, k.live G → ∀ x, Sf G x → x ≠ d ∧ ms ≠ some x ∧ md ≠ some x ∧ rc ≠ some x
  sepFF : ∀ G G', k.live G → k.live G' → G ≠ G' → ∀ x, Sf G x → ¬ Sf G' x
def footD (d : Nat) (ms md rc : Option Nat) : Nat → Prop := fun k => k = d ∨ ms = some k ∨ md = some k ∨ rc = some k
/-- A disk in memory: all of it lies in S. -/
def DiskAt (w : World) (d : Nat) (k : Dk) (S : Nat → Prop) : Prop := ∃ ms md vc rc Sf, DiskM w d k ms md vc rc Sf ∧ (∀ x, footD d ms md rc x → S x) ∧ (∀ G x, k.live G → Sf G x → S x) ∧ ∀ x, S x → x < w.heap.size
theorem DiskM.frame {w w' : World} {d : Nat} {k : Dk} {ms md : Option Nat} {vc : Value} {rc : Option Nat} {Sf : Nat → Nat → Prop} (h : DiskM w d k ms md vc rc Sf) (hs : w.heap.size ≤ w'.heap.size) (h1 : ∀ x, footD d ms md rc x → w'.heap[x]? = w.heap[x]?) (h2 : ∀ G x, k.live G → Sf G x → w'.heap[x]? = w.heap[x]?) : DiskM w' d k ms md vc rc Sf :=
  ⟨(h1 d (.inl rfl)).trans h.cells, h.seen.of_block (fun b e => h1 b (.inr (.inl e))), h.dur.of_block (fun b e => h1 b (.inr (.inr (.inl e)))), h.chg.of_block hs (fun b e => h1 b (.inr (.inr (.inr e)))),
    fun G hG => (h.files G hG).frame hs (fun x hx => h2 G x hG hx), h.sepS, h.sepD, h.sepC, h.sepF, h.sepFF⟩
theorem DiskAt.frame {w w' : World} {d : Nat} {k : Dk} {S : Nat → Prop} (h : DiskAt w d k S) (hs : w.heap.size ≤ w'.heap.size) (hb : ∀ x, S x → w'.heap[x]? = w.heap[x]?) : DiskAt w' d k S := by
  obtain ⟨ms, md, vc, rc, Sf, h1, h2, h3, h4⟩ := h
  exact ⟨ms, md, vc, rc, Sf, h1.frame hs (fun x hx => hb x (h2 x hx)) (fun G x hG hx => hb x (h3 G x hG hx)), h2, h3, fun x hx => Nat.lt_of_lt_of_le (h4 x hx) hs⟩
theorem DiskAt.later {w w' : World} {d : Nat} {k : Dk} {S : Nat → Prop} (h : DiskAt w d k S) (hb : Below w.heap.size w w') : DiskAt w' d k S := by
  refine h.frame hb.size (fun x hx => hb.block x ?_)
  obtain ⟨_, _, _, _, _, _, _, _, h4⟩ := h
  exact h4 x hx
/-- Another thing is not touched. -/
theorem DiskAt.apart {w w' : World} {d : Nat} {k : Dk} {S T : Nat → Prop} (h : DiskAt w d k S) (hc : Chg T w w') (hd : ∀ x, S x → ¬ T x) : DiskAt w' d k S := by
  refine h.frame hc.size (fun x hx => hc.block x ?_ (hd x hx))
  obtain ⟨_, _, _, _, _, _, _, _, h4⟩ := h
  exact h4 x hx
end Go.Proofs.YthcnhjmkcekdaaaGreat

namespace Go.Proofs.YthcnhjmkcekdaaaGreat
open Go.RowKit Go.Maps Plain
set_option linter.unusedVariables false
set_option linter.unusedSimpArgs false
theorem isSliceV {w : World} {v : Value} {vs : List Value} {r : Option Nat} (h : OwnV w v vs r) : ∃ a n c, v = .slice a n c := by
  obtain ⟨a, c, e, _⟩ := h.shape
  exact ⟨a, _, c, e⟩
theorem isSliceO {w : World} {v : Value} {l : List Nat} {r : Option Nat} (h : Own w v l r) : ∃ a n c, v = .slice a n c := by
  rcases h.2 with ⟨e, _⟩ | ⟨_, _, _, e, _⟩
  · exact ⟨_, _, _, e⟩
  · exact ⟨_, _, _, e⟩
theorem Own.rlt {w : World} {v : Value} {l : List Nat} {r : Option Nat} (h : Own w v l r) : ∀ g, r = some g → g < w.heap.size := fun g e => by subst e; exact h.lt
theorem OwnV.rlt {w : World} {v : Value} {l : List Value} {r : Option Nat} (h : OwnV w v l r) : ∀ g, r = some g → g < w.heap.size := fun g e => by subst e; exact h.lt
/-- The three cells of a file. -/
theorem fcells {w : World} {G : Nat} {x y z : Value} (h : w.heap[G]? = some (.cells #[x, y, z] 124)) : w.cell? ⟨G, 0, none⟩ = some x ∧ w.cell? ⟨G, 1, none⟩ = some y ∧ w.cell? ⟨G, 2, none⟩ = some z ∧ w.frozen? ⟨G, 0, none⟩ = false ∧ w.frozen? ⟨G, 1, none⟩ = false ∧ w.frozen? ⟨G, 2, none⟩ = false := by
  simp [World.cell?, World.frozen?, h]
theorem fset {w : World} {G : Nat} {x y z : Value} (h : w.heap[G]? = some (.cells #[x, y, z] 124)) (u : Value) : (w.setCell ⟨G, 0, none⟩ u).heap[G]? = some (.cells #[u, y, z] 124) ∧ (w.setCell ⟨G, 1, none⟩ u).heap[G]? = some (.cells #[x, u, z] 124) ∧ (w.setCell ⟨G, 2, none⟩ u).heap[G]? = some (.cells #[x, y, u] 124) :=
  ⟨heap_setCell_same w G 0 _ _ u h, heap_setCell_same w G 1 _ _ u h, heap_setCell_same w G 2 _ _ u h⟩
theorem grow_set (w : World) (G i : Nat) (u : Value) : w.grownBy (w.setCell ⟨G, i, none⟩ u) (some G) := grow_setCells w G i [u]
theorem settled {w w1 : World} {G : Nat} {f : Fl} {S : Nat → Prop} {vs vd vc v1 : Value} {rs rd rc r1 : Option Nat} {vals : List Value} {blk : Nat → Option Nat} (hm : FileM w G f vs vd vc rs rd rc vals blk) (hS : ∀ k, footF G rs rd rc blk k → S k) (hlt : ∀ k, S k → k < w.heap.size)
    (ho : Own w1 v1 f.seen r1) (hg : w.drew.grownBy w1 rd) (hr : r1 = rd ∨ ∃ g, r1 = some g ∧ w.heap.size ≤ g) :
    FileAt ((w1.setCell ⟨G, 1, none⟩ v1).setCell ⟨G, 2, none⟩ (.slice none 0 0)) G ⟨f.seen, f.seen, []⟩ (Ext S w ((w1.setCell ⟨G, 1, none⟩ v1).setCell ⟨G, 2, none⟩ (.slice none 0 0))) ∧ Chg S w ((w1.setCell ⟨G, 1, none⟩ v1).setCell ⟨G, 2, none⟩ (.slice none 0 0)) := by
  have hGlt : G < w.heap.size := hlt G (hS G (.inl rfl))
  have hGd : rd ≠ some G := fun e => (hm.sepD G e).1 rfl
  have hb1 : w1.heap[G]? = some (.cells #[vs, vd, vc] 124) := (hg.block G hGlt (Ne.symm hGd)).trans hm.blkG
  have hb2 := (fset (fset hb1 v1).2.1 (.slice none 0 0)).2.2
  have hsz1 : w.heap.size ≤ w1.heap.size := hg.size
  have g2 := grow_trans (grow_set w1 G 1 v1) (grow_set (w1.setCell ⟨G, 1, none⟩ v1) G 2 (.slice none 0 0)) (.inl rfl)
  have hW : ((w1.setCell ⟨G, 1, none⟩ v1).setCell ⟨G, 2, none⟩ (.slice none 0 0)).heap.size = w1.heap.size := by simp
  generalize (w1.setCell ⟨G, 1, none⟩ v1).setCell ⟨G, 2, none⟩ (.slice none 0 0) = W at *
  have hr1G : r1 ≠ some G := fun e => by
    rcases hr with h | ⟨g, h, h2⟩
    · exact hGd (h.symm.trans e)
    · rw [h] at e; simp at e; omega
  have hrsG : rs ≠ some G := fun e => (hm.sepS G e).1 rfl
  have hs1 : Own w1 vs f.seen rs := (hm.seen.later (Below.refl _ _).drew).kept hg (by
    cases rs with
    | none => exact .inl rfl
    | some g => exact .inr (fun e => (hm.sepS g rfl).2.1 e.symm))
  refine ⟨⟨vs, v1, .slice none 0 0, rs, r1, none, [], fun _ => none, ⟨hb2, hs1.kept g2 (by
      cases rs with
      | none => exact .inl rfl
      | some g => exact .inr hrsG), ho.kept g2 (by
      cases r1 with
      | none => exact .inl rfl
      | some g => exact .inr hr1G), ⟨OwnV.nil _, rfl, by simp, by simp⟩, fun g e => ⟨(hm.sepS g e).1, fun e2 => ?_, by simp, by simp⟩, fun g e => ⟨fun e2 => hr1G (e2 ▸ e), by simp, by simp⟩, by simp, by simp⟩, fun k hk => ?_, fun k hk => ?_⟩, ?_⟩
  · rcases hr with h | ⟨g', h, h2⟩
    · exact (hm.sepS g e).2.1 (h.symm.trans e2)
    · rw [h] at e2; simp at e2; subst e2; have := hm.seen.rlt _ e; omega
  · rcases hk with rfl | hk | hk | hk | ⟨j, hk⟩
    · exact .inl (hS _ (.inl rfl))
    · exact .inl (hS _ (.inr (.inl hk)))
    · rcases hr with h | ⟨g', h, h2⟩
      · exact .inl (hS _ (.inr (.inr (.inl (h.symm.trans hk)))))
      · rw [h] at hk; simp at hk; subst hk
        exact .inr ⟨h2, by rw [hW]; exact ho.rlt _ h⟩
    · simp at hk
    · simp at hk
  · rcases hk with hk | hk
    · have := hlt k hk; omega
    · exact hk.2
  · refine (((Chg.ofBelow (Below.refl _ _).drew).grown hg ?_).grown g2 ?_)
    · intro g e; exact .inl (hS _ (.inr (.inr (.inl e))))
    · intro g e; simp at e; subst e; exact .inl (hS _ (.inl rfl))
set_option maxHeartbeats 2000000 in
set_option maxRecDepth 1000000 in
theorem settleFile (w : World) (G : Nat) (f : Fl) (S : Nat → Prop) (h : FileAt w G f S) (hf : f.Ok) :
    Calls Tryz.prog 81 #[.pointer (some ⟨G, 0, none⟩)] w fun e w' => e = .returned (.tuple #[]) ∧ FileAt w' G ⟨f.seen, f.seen, []⟩ (Ext S w w') ∧ Chg S w w' := by
  obtain ⟨vs, vd, vc, rs, rd, rc, vals, blk, hm, hS, hlt⟩ := h
  have HM : Hid (FileM w G f vs vd vc rs rd rc vals blk) := hm
  have HS : Hid (∀ k, footF G rs rd rc blk k → S k) := hS
  have HLT : Hid (∀ k, S k → k < w.heap.size) := hlt
  have HF : Hid f.Ok := hf
  obtain ⟨c0, c1, c2, z0, z1, z2⟩ := fcells hm.blkG
  obtain ⟨ad, nd, cd, rfl⟩ := isSliceO hm.dur
  obtain ⟨ac, nc, cc, rfl⟩ := isSliceV hm.chg.row
  have HCON : Hid (Calls Tryz.prog 87 #[.slice ad nd cd, .slice ac nc cc] w.drew fun e w' => ∃ v' r', e = .returned v' ∧ Own w' v' f.seen r' ∧ w.drew.grownBy w' rd ∧ (r' = rd ∨ ∃ g, r' = some g ∧ w.heap.size ≤ g)) := by
    have := afterFile _ _ f.dur rd rc f.chg vals blk w.drew (hm.dur.later (Below.refl _ _).drew) (hm.chg.of_block (Nat.le_refl _) (fun _ _ => rfl) (fun _ _ _ => rfl)) (fun g e => (hm.sepD g e).2) hf.cut hf.len (by have := hf.cnt; omega)
    rw [← hf.eq] at this
    exact this
  have hGlt : G < w.heap.size := hlt G (hS G (.inl rfl))
  have hGd : rd ≠ some G := fun e => (hm.sepD G e).1 rfl
  clear hm hS hlt hf
  go_enter Tryz.func81, Tryz.ntmps81
  go_wp2
  go_region_with (
    go_at_call 87
    refine HCON.out.mono ?_
    rintro e w1 ⟨v1, r1, rfl, ho1, hg1, hr1⟩
    have hb1 : w1.heap[G]? = some (.cells #[vs, .slice ad nd cd, .slice ac nc cc] 124) := (hg1.block G hGlt (Ne.symm hGd)).trans HM.out.blkG
    obtain ⟨d0, d1, d2, y0, y1, y2⟩ := fcells hb1
    obtain ⟨a1, n1, c1', rfl⟩ := isSliceO ho1
    have HO1 : Hid (Own w1 (.slice a1 n1 c1') f.seen r1) := ho1
    have HG1 : Hid (w.drew.grownBy w1 rd) := hg1
    have HR1 : Hid (r1 = rd ∨ ∃ g, r1 = some g ∧ w.heap.size ≤ g) := hr1
    have HB1 : Hid (w1.heap[G]? = some (.cells #[vs, .slice ad nd cd, .slice ac nc cc] 124)) := hb1
    clear ho1 hg1 hr1 hb1)
  all_goals
    go_wp2
    go_end0
    exact ⟨rfl, settled HM.out HS.out HLT.out HO1.out HG1.out HR1.out⟩
end Go.Proofs.YthcnhjmkcekdaaaGreat
