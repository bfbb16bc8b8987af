import Derived.Test.YtbngedfpojnbjabPc
import Derived.Deep.RegionLaw
import Derived.Deep.RegionWith
/-! The document's Pack: an item is put behind bytes. -/
namespace Go.Proofs.Ytbngedfpojnbjab
open Go.RowKit Plain
set_option linter.unusedVariables false

/-- append onto a row of the call's own, as one step of a region that draws. -/
theorem step_append_row {ops : Array Oper} {o : Oper} {a : Act} {w : World} {K : Act → World → Prop} {Q : Exit → Act → World → Prop} {E : Prop}
    (hg : o.guard = none) (s x : Operand) (t tx : TypeId) (hop : o.op = Op.call { callee := Callee.builtin Builtin.append, args := #[s, x], argTypes := #[t, tx] }) (ht : Try.prog.underlying t = some (.slice 5)) (v xv : Value) (l k : List Nat) (r : Option Nat)
    (hs : a.eval s = v) (hx : a.eval x = xv) (hown : Own w v l r) (hk : ∀ c ∈ k, c < 256) (hsrc : Src Try.prog 1 tx xv k.length (cellsOf k) w) (hlen : l.length + k.length ≤ 140737488355328)
    (hK : ∀ v' w' r', Own w' v' (l ++ k) r' → w.grownBy w' r → (r' = r ∨ r' = some w.heap.size) → K (a.put o.dst v') w') :
    if Region.wanted o (yielded ops a.tmps) = true then Oper.wp Try.prog o a w K Q else E := by
  have hw : Region.wanted o (yielded ops a.tmps) = true := by simp [Region.wanted, hg]
  rw [if_pos hw]
  obtain ⟨v', w', r', hrun, h1, h2, h3, h4⟩ := run_append_row w t tx o.type ht v xv l k r hown hk hsrc hlen
  unfold Oper.wp
  simp [execOp, hop, resolve, invoke, builtin, hs, hx, hrun, Result.andThen]
  exact hK v' w' r' h1 h2 h3

/-- What is told of an item that is put behind l. -/
abbrev PutPost (w : World) (l : List Nat) (r : Option Nat) (x : It) : Ending → World → Prop := fun e w' =>
  ∃ v' r', e = .returned (.tuple #[v', .bool x.fits]) ∧ (x.fits = true → Own w' v' (l ++ x.bytes) r') ∧ w.grownBy w' r ∧ (r' = r ∨ ∃ g, r' = some g ∧ w.heap.size ≤ g)

theorem emp_true {s : ByteArray} (h : emp s = true) : s.toList.isEmpty = true := h
theorem emp_false {s : ByteArray} (h : emp s = false) : s.toList.isEmpty = false := h

theorem put1 (vb : Value) (l : List Nat) (r : Option Nat) (n : Nat) (s : ByteArray) (w : World) (ho : Own w vb l r) (hn : n < 18446744073709551616) (hl : l.length + s.size + 10 ≤ 140737488355328) (he : emp s = true) :
    Calls Try.prog 30 #[vb, .agg #[.int .i64 1, .int .u64 n, .string s]] w (PutPost w l r ⟨1, n, s⟩) := by
  have HB : Hid (Below w.heap.size w (w.alloc (.cells #[.int .i64 1, .int .u64 n, .string s] 37))) := (Below.refl _ _).alloc (Nat.le_refl _) _
  have HO : Hid (Own (w.alloc (.cells #[.int .i64 1, .int .u64 n, .string s] 37)) vb l r) := ho.later HB.out
  clear ho
  have HF : Hid (It.fits ⟨1, n, s⟩ = true) := by unfold Hid; simp [It.fits, he]
  have HE : Hid (It.bytes ⟨1, n, s⟩ = uv n) := by unfold Hid It.bytes; simp
  have hee : s.toList.isEmpty = true := he
  go_enter Try.func30, Try.ntmps30
  go_wp2_with fail
  refine (refUvarint n _ hn).mono ?_
  rintro e w1 ⟨v1, g1, rfl, ho1, hg1, hb1⟩
  have HB1 : Hid (Below w.heap.size w w1) := below_on HB.out hb1
  have HO1 : Hid (Own w1 vb l r) := HO.out.later hb1
  have HU1 : Hid (BytesAt w1 v1 (uv n)) := ho1.bytes
  have HLN : Hid ((uv n).length ≤ 10) := by unfold Hid; exact uv_len10 (show n < 2 ^ 64 from hn)
  clear ho1 hg1 hb1
  go_wp2_with (at_builtin; refine wpList_append_row _ rfl _ _ 23 23 rfl Try.underlying23 _ _ l (uv n) r rfl rfl ?hOwn ?hByte ?hSrc ?hLen ?_)
  case hOwn => exact HO1.out
  case hByte => exact HU1.out.byte
  case hSrc => exact src_of Try.underlying23 HU1.out
  case hLen => have := HLN.out; omega
  intro v2 w2 r2 ho2 hg2 hr2 hn2
  have HO2 : Hid (Own w2 v2 (l ++ (uv n)) r2) := ho2
  have HG2 : Hid (w.grownBy w2 r) := grow_trans (below_grow HB1.out r) hg2 (.inl rfl)
  have HR2 : Hid (r2 = r ∨ ∃ g, r2 = some g ∧ w.heap.size ≤ g) := by
    rcases hr2 with rfl | rfl
    · exact .inl rfl
    · exact .inr ⟨_, rfl, HB1.out.size⟩
  clear ho2 hg2 hr2 hn2
  go_wp2
  go_ret2
  exact ⟨v2, r2, by rw [HF.out]; rfl, fun _ => by rw [HE.out]; exact HO2.out, HG2.out, HR2.out⟩

theorem put2 (vb : Value) (l : List Nat) (r : Option Nat) (n : Nat) (s : ByteArray) (w : World) (ho : Own w vb l r) (hn : n < 18446744073709551616) (hl : l.length + s.size + 10 ≤ 140737488355328) (he : emp s = true) :
    Calls Try.prog 30 #[vb, .agg #[.int .i64 2, .int .u64 n, .string s]] w (PutPost w l r ⟨2, n, s⟩) := by
  have HB : Hid (Below w.heap.size w (w.alloc (.cells #[.int .i64 2, .int .u64 n, .string s] 37))) := (Below.refl _ _).alloc (Nat.le_refl _) _
  have HO : Hid (Own (w.alloc (.cells #[.int .i64 2, .int .u64 n, .string s] 37)) vb l r) := ho.later HB.out
  clear ho
  have HF : Hid (It.fits ⟨2, n, s⟩ = true) := by unfold Hid; simp [It.fits, he]
  have HE : Hid (It.bytes ⟨2, n, s⟩ = uv n) := by unfold Hid It.bytes; simp
  have hee : s.toList.isEmpty = true := he
  go_enter Try.func30, Try.ntmps30
  go_wp2_with fail
  refine (refUvarint n _ hn).mono ?_
  rintro e w1 ⟨v1, g1, rfl, ho1, hg1, hb1⟩
  have HB1 : Hid (Below w.heap.size w w1) := below_on HB.out hb1
  have HO1 : Hid (Own w1 vb l r) := HO.out.later hb1
  have HU1 : Hid (BytesAt w1 v1 (uv n)) := ho1.bytes
  have HLN : Hid ((uv n).length ≤ 10) := by unfold Hid; exact uv_len10 (show n < 2 ^ 64 from hn)
  clear ho1 hg1 hb1
  go_wp2_with (at_builtin; refine wpList_append_row _ rfl _ _ 23 23 rfl Try.underlying23 _ _ l (uv n) r rfl rfl ?hOwn ?hByte ?hSrc ?hLen ?_)
  case hOwn => exact HO1.out
  case hByte => exact HU1.out.byte
  case hSrc => exact src_of Try.underlying23 HU1.out
  case hLen => have := HLN.out; omega
  intro v2 w2 r2 ho2 hg2 hr2 hn2
  have HO2 : Hid (Own w2 v2 (l ++ (uv n)) r2) := ho2
  have HG2 : Hid (w.grownBy w2 r) := grow_trans (below_grow HB1.out r) hg2 (.inl rfl)
  have HR2 : Hid (r2 = r ∨ ∃ g, r2 = some g ∧ w.heap.size ≤ g) := by
    rcases hr2 with rfl | rfl
    · exact .inl rfl
    · exact .inr ⟨_, rfl, HB1.out.size⟩
  clear ho2 hg2 hr2 hn2
  go_wp2
  go_ret2
  exact ⟨v2, r2, by rw [HF.out]; rfl, fun _ => by rw [HE.out]; exact HO2.out, HG2.out, HR2.out⟩

theorem put4 (vb : Value) (l : List Nat) (r : Option Nat) (n : Nat) (s : ByteArray) (w : World) (ho : Own w vb l r) (hn : n < 18446744073709551616) (hl : l.length + s.size + 10 ≤ 140737488355328) (he : emp s = true) :
    Calls Try.prog 30 #[vb, .agg #[.int .i64 4, .int .u64 n, .string s]] w (PutPost w l r ⟨4, n, s⟩) := by
  have HB : Hid (Below w.heap.size w (w.alloc (.cells #[.int .i64 4, .int .u64 n, .string s] 37))) := (Below.refl _ _).alloc (Nat.le_refl _) _
  have HO : Hid (Own (w.alloc (.cells #[.int .i64 4, .int .u64 n, .string s] 37)) vb l r) := ho.later HB.out
  clear ho
  have HF : Hid (It.fits ⟨4, n, s⟩ = true) := by unfold Hid; simp [It.fits, he]
  have HE : Hid (It.bytes ⟨4, n, s⟩ = be 8 n) := by unfold Hid It.bytes; simp
  have hee : s.toList.isEmpty = true := he
  go_enter Try.func30, Try.ntmps30
  go_wp2_with fail
  refine (refFixed8 n _ hn).mono ?_
  rintro e w1 ⟨v1, g1, rfl, ho1, hg1, hb1⟩
  have HB1 : Hid (Below w.heap.size w w1) := below_on HB.out hb1
  have HO1 : Hid (Own w1 vb l r) := HO.out.later hb1
  have HU1 : Hid (BytesAt w1 v1 (be 8 n)) := ho1.bytes
  have HLN : Hid ((be 8 n).length ≤ 10) := by unfold Hid; rw [be_len]; omega
  clear ho1 hg1 hb1
  go_wp2_with (at_builtin; refine wpList_append_row _ rfl _ _ 23 23 rfl Try.underlying23 _ _ l (be 8 n) r rfl rfl ?hOwn ?hByte ?hSrc ?hLen ?_)
  case hOwn => exact HO1.out
  case hByte => exact HU1.out.byte
  case hSrc => exact src_of Try.underlying23 HU1.out
  case hLen => have := HLN.out; omega
  intro v2 w2 r2 ho2 hg2 hr2 hn2
  have HO2 : Hid (Own w2 v2 (l ++ (be 8 n)) r2) := ho2
  have HG2 : Hid (w.grownBy w2 r) := grow_trans (below_grow HB1.out r) hg2 (.inl rfl)
  have HR2 : Hid (r2 = r ∨ ∃ g, r2 = some g ∧ w.heap.size ≤ g) := by
    rcases hr2 with rfl | rfl
    · exact .inl rfl
    · exact .inr ⟨_, rfl, HB1.out.size⟩
  clear ho2 hg2 hr2 hn2
  go_wp2
  go_ret2
  exact ⟨v2, r2, by rw [HF.out]; rfl, fun _ => by rw [HE.out]; exact HO2.out, HG2.out, HR2.out⟩

theorem putFull (vb : Value) (l : List Nat) (r : Option Nat) (n : Nat) (s : ByteArray) (w : World) (ho : Own w vb l r) (hn : n < 18446744073709551616) (hl : l.length + s.size + 10 ≤ 140737488355328) (k : Int) (hk : k ≠ 5) (he : emp s = false) :
    Calls Try.prog 30 #[vb, .agg #[.int .i64 k, .int .u64 n, .string s]] w (PutPost w l r ⟨k, n, s⟩) := by
  have HB : Hid (Below w.heap.size w (w.alloc (.cells #[.int .i64 k, .int .u64 n, .string s] 37))) := (Below.refl _ _).alloc (Nat.le_refl _) _
  have HO : Hid (Own (w.alloc (.cells #[.int .i64 k, .int .u64 n, .string s] 37)) vb l r) := ho.later HB.out
  clear ho
  have HF : Hid (It.fits ⟨k, n, s⟩ = false) := by unfold Hid; simp [It.fits, he, hk]
  have hee : s.toList.isEmpty = false := he
  have hkk : (k != 5) = true := by simpa using hk
  go_enter Try.func30, Try.ntmps30
  go_wp2
  go_ret2
  exact ⟨vb, r, by rw [HF.out]; rfl, fun h => by rw [HF.out] at h; simp at h, below_grow HB.out r, .inl rfl⟩

theorem putOther (vb : Value) (l : List Nat) (r : Option Nat) (n : Nat) (s : ByteArray) (w : World) (ho : Own w vb l r) (hn : n < 18446744073709551616) (hl : l.length + s.size + 10 ≤ 140737488355328) (k : Int) (hk : k < 0 ∨ 5 < k) (he : emp s = true) :
    Calls Try.prog 30 #[vb, .agg #[.int .i64 k, .int .u64 n, .string s]] w (PutPost w l r ⟨k, n, s⟩) := by
  have HB : Hid (Below w.heap.size w (w.alloc (.cells #[.int .i64 k, .int .u64 n, .string s] 37))) := (Below.refl _ _).alloc (Nat.le_refl _) _
  have HO : Hid (Own (w.alloc (.cells #[.int .i64 k, .int .u64 n, .string s] 37)) vb l r) := ho.later HB.out
  clear ho
  have HF : Hid (It.fits ⟨k, n, s⟩ = false) := by unfold Hid It.fits; simp only; rw [if_neg (by omega), if_neg (by omega), if_neg (by omega), if_neg (by omega)]
  have hee : s.toList.isEmpty = true := he
  have e0 : (k == 0) = false := by simp; omega
  have e1 : (k == 1) = false := by simp; omega
  have e2 : (k == 2) = false := by simp; omega
  have e3 : (k == 3) = false := by simp; omega
  have e4 : (k == 4) = false := by simp; omega
  have e5 : (k == 5) = false := by simp; omega
  have n5 : (k != 5) = true := by simp; omega
  clear hk
  go_enter Try.func30, Try.ntmps30
  go_wp2
  go_ret2
  exact ⟨vb, r, by rw [HF.out]; rfl, fun h => by rw [HF.out] at h; simp at h, below_grow HB.out r, .inl rfl⟩
end Go.Proofs.Ytbngedfpojnbjab
