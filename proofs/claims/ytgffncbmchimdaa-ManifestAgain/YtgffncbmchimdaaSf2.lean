import Derived.Test.YtgffncbmchimdaaSfm
import Derived.Deep.LoopGhost
/-! Files: what is seen, what is durable, the changes between. -/
namespace Go.Proofs.Ytgffncbmchimdaa
open Go.RowKit Go.Maps Plain
set_option linter.unusedVariables false
set_option linter.unusedSimpArgs false

/-- A change of a file: bytes behind, or a cut. -/
def FC : Type := List Nat ⊕ Nat
def FC.add (b : List Nat) : FC := Sum.inl b
def FC.cut (n : Nat) : FC := Sum.inr n
theorem FC.elim {motive : FC → Prop} (add : ∀ b, motive (FC.add b)) (cut : ∀ n, motive (FC.cut n)) (c : FC) : motive c := by
  rcases c with b | n
  · exact add b
  · exact cut n
def FC.on (s : List Nat) (c : FC) : List Nat := Sum.elim (fun b => s ++ b) (fun n => s.take n) c
theorem FC.on_add (s b : List Nat) : FC.on s (FC.add b) = s ++ b := rfl
theorem FC.on_cut (s : List Nat) (n : Nat) : FC.on s (FC.cut n) = s.take n := rfl
/-- A change's value: a slice of its own bytes, or a number. -/
def ChOne (w : World) (c : FC) (x : Value) (q : Option Nat) : Prop :=
  Sum.elim (fun b => ∃ v, x = .iface 105 (.agg #[v]) ∧ Own w v b q) (fun n => x = .iface 107 (.agg #[.int .i64 ((n : Nat) : Int)])) c
theorem ChOne.add {w : World} {b : List Nat} {x : Value} {q : Option Nat} : ChOne w (FC.add b) x q ↔ ∃ v, x = .iface 105 (.agg #[v]) ∧ Own w v b q := Iff.rfl
theorem ChOne.cut {w : World} {n : Nat} {x : Value} {q : Option Nat} : ChOne w (FC.cut n) x q ↔ x = .iface 107 (.agg #[.int .i64 ((n : Nat) : Int)]) := Iff.rfl
theorem ChOne.of_block {w w' : World} {c : FC} {x : Value} {q : Option Nat} (h : ChOne w c x q) (hs : w.heap.size ≤ w'.heap.size) (hb : ∀ g, q = some g → w'.heap[g]? = w.heap[g]?) : ChOne w' c x q := by
  cases c using FC.elim with
  | add b =>
    obtain ⟨v, h1, h2⟩ := ChOne.add.mp h
    exact ChOne.add.mpr ⟨v, h1, h2.of_block hs hb⟩
  | cut n => exact h
/-- The states of a file along its changes. -/
def fst (s : List Nat) (cs : List FC) : List Nat := cs.foldl FC.on s
theorem fst_snoc (s : List Nat) (cs : List FC) (c : FC) : fst s (cs ++ [c]) = FC.on (fst s cs) c := by simp [fst]
theorem fst_take (s : List Nat) (cs : List FC) (k : Nat) (c : FC) (h : cs[k]? = some c) : fst s (cs.take (k + 1)) = FC.on (fst s (cs.take k)) c := by
  obtain ⟨hk, e⟩ := List.getElem?_eq_some_iff.mp h
  rw [List.take_succ_eq_append_getElem hk, e, fst_snoc]

/-- A row of changes: the values, and the block of each one's bytes. -/
structure ChRow (w : World) (vc : Value) (cs : List FC) (rc : Option Nat) (vals : List Value) (blk : Nat → Option Nat) : Prop where
  row : OwnV w vc vals rc
  len : vals.length = cs.length
  one : ∀ (j : Nat) (c : FC), cs[j]? = some c → ∃ x, vals[j]? = some x ∧ ChOne w c x (blk j)
  bl : ∀ j g, blk j = some g → g < w.heap.size
theorem ChRow.of_block {w w' : World} {vc : Value} {cs : List FC} {rc : Option Nat} {vals : List Value} {blk : Nat → Option Nat} (h : ChRow w vc cs rc vals blk) (hs : w.heap.size ≤ w'.heap.size) (h1 : ∀ g, rc = some g → w'.heap[g]? = w.heap[g]?) (h2 : ∀ j g, blk j = some g → w'.heap[g]? = w.heap[g]?) : ChRow w' vc cs rc vals blk :=
  ⟨h.row.of_block hs h1, h.len, fun j c hc => by
    obtain ⟨x, e1, e2⟩ := h.one j c hc
    exact ⟨x, e1, e2.of_block hs (h2 j)⟩, fun j g e => Nat.lt_of_lt_of_le (h.bl j g e) hs⟩

theorem own_cap {w : World} {a : Option Addr} {n c : Nat} {l : List Nat} {r : Option Nat} (h : Own w (.slice a n c) l r) : n ≤ c ∧ c ≤ 2 ^ 63 - 1 := by
  rcases h.2 with ⟨e, h1, _⟩ | ⟨g, cap', _, e, _, h1, h2, _⟩
  · injection e with _ e1 e2; omega
  · injection e with _ e1 e2; unfold maxLen at h2; omega

theorem own_len {w : World} {a : Option Addr} {n c : Nat} {l : List Nat} {r : Option Nat} (h : Own w (.slice a n c) l r) : l.length = n := by
  rcases h.2 with ⟨e, h1, _⟩ | ⟨g, cap', _, e, _⟩
  · injection e with _ e1 e2; rw [h1, e1]; rfl
  · injection e with _ e1 e2; exact e1.symm

set_option maxRecDepth 1000000 in
theorem addOntoOf (ab : Option Addr) (nb cb : Nat) (b : List Nat) (st : Value) (s : List Nat) (r : Option Nat) (w : World) (hb : BytesAt w (.slice ab nb cb) b) (ho : Own w st s r) (hlen : s.length + b.length ≤ 140737488355328) :
    Calls Try.prog 102 #[.agg #[.slice ab nb cb], st] w fun e w' => ∃ a' n' c' r', e = .returned (.slice a' n' c') ∧ Own w' (.slice a' n' c') (s ++ b) r' ∧ w.grownBy w' r ∧ (r' = r ∨ ∃ g, r' = some g ∧ w.heap.size ≤ g) := by
  have HB : Hid (BytesAt w (.slice ab nb cb) b) := hb
  have HO : Hid (Own w st s r) := ho
  clear hb ho
  go_enter Try.func102, Try.ntmps102
  go_wp2_with (at_builtin; refine wpList_append_row _ rfl _ _ 27 27 rfl Try.underlying27 _ _ s b r rfl rfl ?hOwn ?hByte ?hSrc ?hLen ?_)
  case hOwn => exact HO.out.later ((Below.refl _ _).alloc (Nat.le_refl _) _)
  case hByte => exact HB.out.byte
  case hSrc => exact src_of Try.underlying27 (HB.out.later ((Below.refl _ _).alloc (Nat.le_refl _) _))
  case hLen => exact hlen
  intro v' w3 r3 ho3 hg3 hr3 hn3
  obtain ⟨a3, n3, c3, rfl⟩ : ∃ a3 n3 c3, v' = .slice a3 n3 c3 := by
    rcases ho3.2 with ⟨e, _⟩ | ⟨_, _, _, e, _⟩
    · exact ⟨_, _, _, e⟩
    · exact ⟨_, _, _, e⟩
  have HE : Hid (Own w3 (.slice a3 n3 c3) (s ++ b) r3 ∧ w.grownBy w3 r ∧ (r3 = r ∨ ∃ g, r3 = some g ∧ w.heap.size ≤ g)) := by
    refine ⟨ho3, grow_trans (World.grownBy_alloc _ _ r) hg3 (.inl rfl), ?_⟩
    rcases hr3 with e | e
    · exact .inl e
    · exact .inr ⟨_, e, by simp⟩
  clear ho3 hg3 hr3 hn3
  go_wp2
  go_ret
  exact ⟨a3, n3, c3, r3, rfl, HE.out⟩

set_option maxHeartbeats 2000000 in
set_option maxRecDepth 1000000 in
/-- What 'after' makes of a row of its own. -/
theorem afterFile (v vc : Value) (s : List Nat) (r rc : Option Nat) (cs : List FC) (vals : List Value) (blk : Nat → Option Nat) (w : World) (ho : Own w v s r) (hc : ChRow w vc cs rc vals blk) (hr : ∀ g, r = some g → rc ≠ some g ∧ ∀ j, blk j ≠ some g)
    (hcut : ∀ k n, cs[k]? = some (FC.cut n) → n ≤ (fst s (cs.take k)).length) (hlen : ∀ k, (fst s (cs.take k)).length ≤ 70368744177664) (hcs : cs.length ≤ 4398046511104) :
    Calls Try.prog 55 #[v, vc] w fun e w' => ∃ v' r', e = .returned v' ∧ Own w' v' (fst s cs) r' ∧ w.grownBy w' r ∧ (r' = r ∨ ∃ g, r' = some g ∧ w.heap.size ≤ g) := by
  have HO : Hid (Own w v s r) := ho
  have HC : Hid (ChRow w vc cs rc vals blk) := hc
  have HR : Hid (∀ g, r = some g → rc ≠ some g ∧ ∀ j, blk j ≠ some g) := hr
  have HCU : Hid (∀ k n, cs[k]? = some (FC.cut n) → n ≤ (fst s (cs.take k)).length) := hcut
  have HL : Hid (∀ k, (fst s (cs.take k)).length ≤ 70368744177664) := hlen
  obtain ⟨a, cap, rfl, hcm, hlc⟩ := hc.row.shape
  unfold maxLen at hcm
  rw [hc.len] at hlc ⊢
  have HLN : Hid (vals.length = cs.length) := hc.len
  obtain ⟨av, cv, rfl⟩ : ∃ av cv, v = .slice av s.length cv := by
    rcases ho.2 with ⟨e, e2, _⟩ | ⟨g, cap', _, e, _⟩
    · exact ⟨none, 0, by rw [e, e2]; rfl⟩
    · exact ⟨_, cap', e⟩
  clear ho hc hr hcut hlen
  go_enter Try.func55, Try.ntmps55
  go_wp2
  go_loopg [0, 9] cs.length (fun gk s0 s9 wx => ∃ (k n0 c0 : Nat) (a0 : Option Addr) (r0 : Option Nat), k + gk = cs.length ∧ s9 = .int .i64 k ∧ s0 = .slice a0 n0 c0 ∧ n0 ≤ c0 ∧ c0 ≤ 2 ^ 63 - 1 ∧ Hid (Own wx (.slice a0 n0 c0) (fst s (cs.take k)) r0 ∧ (fst s (cs.take k)).length = n0 ∧ w.grownBy wx r ∧ (r0 = r ∨ ∃ g, r0 = some g ∧ w.heap.size ≤ g)))
  case atStart =>
    obtain ⟨c1, c2⟩ := own_cap HO.out
    exact ⟨0, s.length, cv, av, r, by omega, rfl, rfl, c1, c2, by simpa [fst] using HO.out, by simp [fst], below_grow (Below.refl _ _) _, .inl rfl⟩
  case round =>
    obtain ⟨k, n0, c0, a0, r0, hkg, rfl, rfl, hn0, hc0, HI⟩ := hrel
    cases gk with
    | zero =>
      obtain rfl : k = cs.length := by omega
      go_wp2
      go_ret
      have h1 := HI.out
      rw [List.take_length] at h1
      exact ⟨_, r0, rfl, h1.1, h1.2.2.1, h1.2.2.2⟩
    | succ gk1 =>
      have hk : k < cs.length := by omega
      obtain ⟨c, hck⟩ : ∃ c, cs[k]? = some c := ⟨_, List.getElem?_eq_getElem hk⟩
      have hC2 : ChRow wr (.slice a vals.length cap) cs rc vals blk := HC.out.of_block HI.out.2.2.1.size
        (fun g e => HI.out.2.2.1.block g (by have := HC.out.row; rw [e] at this; exact this.lt) (fun e2 => (HR.out g e2.symm).1 e))
        (fun j g e => HI.out.2.2.1.block g (HC.out.bl j g e) (fun e2 => (HR.out g e2.symm).2 j e))
      obtain ⟨x, hx, hone⟩ := hC2.one k c hck
      obtain ⟨gc, hrc, hac, hcell⟩ := hC2.row.get hx
      subst hac
      have HST : Hid (fst s (cs.take (k + 1)) = FC.on (fst s (cs.take k)) c) := fst_take s cs k c hck
      have HLK : Hid ((fst s (cs.take k)).length ≤ 70368744177664 ∧ (fst s (cs.take (k + 1))).length ≤ 70368744177664) := ⟨HL.out k, HL.out (k + 1)⟩
      cases c using FC.elim with
      | add b =>
        obtain ⟨v, rfl, hov⟩ := ChOne.add.mp hone
        obtain ⟨ab, nb, cb, rfl⟩ : ∃ ab nb cb, v = .slice ab nb cb := by
          rcases hov.2 with ⟨e, _⟩ | ⟨_, _, _, e, _⟩
          · exact ⟨_, _, _, e⟩
          · exact ⟨_, _, _, e⟩
        have HB : Hid (BytesAt wr (.slice ab nb cb) b) := hov.bytes
        rw [FC.on_add] at HST
        have HW : Hid (Own wr (.slice a0 n0 c0) (fst s (cs.take k)) r0 ∧ w.grownBy wr r ∧ (r0 = r ∨ ∃ g, r0 = some g ∧ w.heap.size ≤ g)) := ⟨HI.out.1, HI.out.2.2.1, HI.out.2.2.2⟩
        generalize fst s (cs.take k) = X at HST HLK HW
        clear HI hone hov hC2 hx hck
        have hm := methAdd (.agg #[.slice ab nb cb]) wr
        go_wp2_with fail
        refine (addOntoOf ab nb cb b _ X r0 wr HB.out HW.out.1 (by have h1 := HLK.out.2; rw [HST.out, List.length_append] at h1; omega)).mono ?_
        rintro e w3 ⟨a3, n3, c3, r3, rfl, ho3, hg3, hr3⟩
        obtain ⟨q1, q2⟩ := own_cap ho3
        have HN : Hid (Own w3 (.slice a3 n3 c3) (fst s (cs.take (k + 1))) r3 ∧ (fst s (cs.take (k + 1))).length = n3 ∧ w.grownBy w3 r ∧ (r3 = r ∨ ∃ g, r3 = some g ∧ w.heap.size ≤ g)) := by
          have hsz := HW.out.2.1.size
          unfold Hid
          rw [HST.out]
          refine ⟨ho3, own_len ho3, grow_trans HW.out.2.1 hg3 ?_, ?_⟩
          · rcases HW.out.2.2 with h | h
            · exact .inl h
            · exact .inr (.inr h)
          · rcases hr3 with e | ⟨g, e, e2⟩
            · rw [e]; exact HW.out.2.2
            · exact .inr ⟨g, e, by omega⟩
        clear ho3 hg3 hr3 hm
        go_wp2
        go_roundg gk1
        case measure => omega
        case rel => exact ⟨k + 1, n3, c3, a3, r3, by omega, by go_num, rfl, q1, q2, HN.out⟩
      | cut n =>
        rw [ChOne.cut] at hone
        subst hone
        have hn : n ≤ n0 := by have := HCU.out k n hck; have := HI.out.2.1; omega
        rw [FC.on_cut] at HST
        have HN : Hid (∀ W, Below wr.heap.size wr W → Own W (.slice a0 n c0) (fst s (cs.take (k + 1))) r0 ∧ (fst s (cs.take (k + 1))).length = n ∧ w.grownBy W r ∧ (r0 = r ∨ ∃ g, r0 = some g ∧ w.heap.size ≤ g)) := fun W hW => by
          rw [HST.out]
          have hl := HI.out.2.1
          exact ⟨(HI.out.1.take n (by omega)).later hW, by rw [List.length_take]; omega, grow_trans HI.out.2.2.1 (below_grow hW none) (.inr (.inl rfl)), HI.out.2.2.2⟩
        clear HI hC2 hx hck
        have hm := methTru (.agg #[.int .i64 ((n : Nat) : Int)]) wr
        go_wp2
        go_roundg gk1
        case measure => omega
        case rel => exact ⟨k + 1, n, c0, a0, r0, by omega, by go_num, rfl, by omega, hc0, HN.out _ ((Below.refl _ _).alloc (Nat.le_refl _) _)⟩
end Go.Proofs.Ytgffncbmchimdaa
