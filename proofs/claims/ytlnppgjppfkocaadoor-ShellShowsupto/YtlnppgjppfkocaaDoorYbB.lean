import Derived.Test.YtlnppgjppfkocaaDoorYbA
import Derived.Test.YtlnppgjppfkocaaDoorYbP
import Derived.Test.YtlnppgjppfkocaaDoorRgd
/-! The program's writer: bytes in two digits, numbers, texts. -/
namespace Go.Proofs.YtlnppgjppfkocaaDoor.Xs
open Go.RowKit Plain
set_option linter.unusedVariables false
set_option linter.unusedSimpArgs false

theorem src_bytes (w : World) (ys : By) (n : Nat) (C : Array Value) (t : TypeId) (hC : C = (cellsOf (nats ys)).toArray) (hn : n = ys.length) (hm : ys.length ≤ 1000) : Src Tryd.prog 1 59 (.slice (some ⟨w.heap.size, 0, none⟩) n n) (nats ys).length (cellsOf (nats ys)) (w.alloc (.cells C t)) := by
  subst hn
  have hs : C.size = ys.length := by rw [hC, List.size_toArray, cellsOf_len, nats_len]
  have h := Own.new w C (nats ys) ys.length t (nats_lt ys) hs (by rw [nats_len]; exact Nat.le_refl _) (by unfold maxLen; omega) (fun j hj => by rw [hC, List.getElem?_toArray, cellsOf_get _ _ hj])
  rw [nats_len] at h
  have := src_of Tryd.underlying59 h.bytes
  exact this
/-- append of some bytes, which lie in a block of their own. -/
theorem wpList_append_gbs {ops : Array Oper} {rest : List Oper} {o : Oper} {a : Act} {Q : Exit → Act → World → Prop} {W : World} (w w1 : World) (hgd : o.guard = none) (s x : Operand)
    (ho : o.op = .call { callee := .builtin .append, args := #[s, x], argTypes := #[59, 59] }) (v xv : Value) (l ys : By)
    (hs : a.eval s = v) (hx : a.eval x = xv) (h : Gb W w v l) (hb1 : Below w.heap.size w w1) (hsrc : Src Tryd.prog 1 59 xv (nats ys).length (cellsOf (nats ys)) w1) (hlen : l.length + ys.length ≤ 140737488355000)
    (hK : ∀ v' w', Gb W w' v' (l ++ ys) → wpList Tryd.prog ops Q rest (a.put o.dst v') w') : wpList Tryd.prog ops Q (o :: rest) a w1 := by
  obtain ⟨r, h1, h2, h3⟩ := h
  refine wpList_append_row w1 hgd s x 59 59 ho Tryd.underlying59 v xv (nats l) (nats ys) r hs hx (h1.later hb1) (nats_lt ys) hsrc (by rw [nats_len, nats_len]; omega) ?_
  intro v' w' r' ho' hg' hr' _
  refine hK v' w' ⟨r', by rw [nats_app]; exact ho', fun g e => ?_, ?_⟩
  · rcases hr' with k | k
    · exact h2 g (by rw [← k]; exact e)
    · rw [k] at e; cases e; exact Nat.le_trans h3.size hb1.size
  · exact (h3.trans (hb1.mono h3.size)).trans (grow_below hg' (Nat.le_trans h3.size hb1.size) h2)
theorem hexAt (n : Nat) (hn : n < 16) (w : World) : (Instr.index 9 (.string ⟨#[48, 49, 50, 51, 52, 53, 54, 55, 56, 57, 97, 98, 99, 100, 101, 102]⟩) (.int .u8 (n : Int))).run Tryd.prog w = .ok (.int .u8 ((hxD n).toNat : Int)) w := by
  have key : ∀ i : Fin 16, ((⟨#[48, 49, 50, 51, 52, 53, 54, 55, 56, 57, 97, 98, 99, 100, 101, 102]⟩ : ByteArray)[i.val]'(by have := i.isLt; exact this)) = hxD i.val := by decide
  have hs : (⟨#[48, 49, 50, 51, 52, 53, 54, 55, 56, 57, 97, 98, 99, 100, 101, 102]⟩ : ByteArray).size = 16 := by decide
  simp only [Go.run_index_string (P := Tryd.prog) (h := Tryd.underlying9)]
  rw [dif_pos ⟨by omega, by omega⟩]
  have hk := key ⟨n, hn⟩
  simp only at hk
  rw [← hk]
  rfl
theorem step_append_gbs {ops : Array Oper} {o : Oper} {a : Act} {w w1 W : World} {K : Act → World → Prop} {Q : Exit → Act → World → Prop} {E : Prop}
    (hg : o.guard = none) (s x : Operand) (hop : o.op = Op.call { callee := Callee.builtin Builtin.append, args := #[s, x], argTypes := #[59, 59] }) (v xv : Value) (l ys : By)
    (hs : a.eval s = v) (hx : a.eval x = xv) (h : Gb W w v l) (hb1 : Below w.heap.size w w1) (hsrc : Src Tryd.prog 1 59 xv (nats ys).length (cellsOf (nats ys)) w1) (hlen : l.length + ys.length ≤ 140737488355000)
    (hK : ∀ v' w', Gb W w' v' (l ++ ys) → K (a.put o.dst v') w') :
    if Region.wanted o (yielded ops a.tmps) = true then Oper.wp Tryd.prog o a w1 K Q else E := by
  have hw : Region.wanted o (yielded ops a.tmps) = true := by simp [Region.wanted, hg]
  rw [if_pos hw]
  obtain ⟨r, h1, h2, h3⟩ := h
  obtain ⟨v', w', r', hrun, k1, k2, k3, k4⟩ := run_append_row w1 59 59 o.type Tryd.underlying59 v xv (nats l) (nats ys) r (h1.later hb1) (nats_lt ys) hsrc (by rw [nats_len, nats_len]; omega)
  unfold Oper.wp
  simp [execOp, hop, resolve, invoke, builtin, hs, hx, hrun, Result.andThen]
  refine hK v' w' ⟨r', by rw [nats_app]; exact k1, fun g e => ?_, ?_⟩
  · rcases k3 with k | k
    · exact h2 g (by rw [← k]; exact e)
    · rw [k] at e; cases e; exact Nat.le_trans h3.size hb1.size
  · exact (h3.trans (hb1.mono h3.size)).trans (grow_below k2 (Nat.le_trans h3.size hb1.size) h2)
theorem hex_lo (c : UInt8) : bits .and .u8 (c.toNat : Int) 15 = ((c.toNat % 16 : Nat) : Int) := by
  have : ∀ i : Fin 256, bits .and .u8 ((i.val : Nat) : Int) 15 = ((i.val % 16 : Nat) : Int) := by decide +kernel
  exact this ⟨c.toNat, c.toNat_lt⟩
set_option maxHeartbeats 4000000 in
set_option maxRecDepth 100000 in
theorem appByteOf (c : UInt8) (W w : World) (v : Value) (b : By) (h : Gb W w v b) (hl : b.length ≤ 140737488354000) :
    Calls Tryd.prog 37 #[v, .int .u8 (c.toNat : Int)] w fun e w' => ∃ v', e = .returned v' ∧ Gb W w' v' (b ++ hxB c) := by
  have hlt := c.toNat_lt
  obtain ⟨hi, hhi⟩ : ∃ n, c.toNat / 16 = n := ⟨_, rfl⟩
  obtain ⟨lo, hlo⟩ : ∃ n, c.toNat % 16 = n := ⟨_, rfl⟩
  have hib : hi < 16 := by omega
  have lob : lo < 16 := by omega
  have hx : hxB c = [hxD hi, hxD lo] := by unfold hxB; rw [hhi, hlo]
  have hhi' : (c.toNat : Int) / 16 = (hi : Int) := by omega
  have hlo' : bits .and .u8 (c.toNat : Int) 15 = (lo : Int) := by rw [hex_lo, hlo]
  rw [hx]
  go_enter Tryd.func37, Tryd.ntmps37
  go_wp2_with fail
  refine wp_region_noPanic ?_
  refine Till.start 9 (S := fun _ => True) (by kernel_rfl) trivial (fun hHeld => ?_)
  refine' Till.take 0 rfl (by kernel_rfl) (by kernel_rfl) (by kernel_rfl) (by kernel_rfl) (fun _ _ _ h => h) (Or.inl ⟨by rfl, ?_⟩) trivial ?_
  rotate_left
  · (intro w hSw; (try dsimp only at hSw); go_simp <;> with_reducible rfl)
  try simp only [Act.put, List.setIfInBounds_toArray, List.set_cons_zero, List.set_cons_succ]
  refine' Till.take 1 rfl (by kernel_rfl) (by kernel_rfl) (by kernel_rfl) (by kernel_rfl) (fun _ _ _ h => h) (Or.inl ⟨by rfl, ?_⟩) trivial ?_
  rotate_left
  · (intro w hSw; (try dsimp only at hSw); go_simp <;> with_reducible rfl)
  try simp only [Act.put, List.setIfInBounds_toArray, List.set_cons_zero, List.set_cons_succ]
  refine' Till.take 2 (v := .int .u8 (hi : Int)) rfl (by kernel_rfl) (by kernel_rfl) (by kernel_rfl) (by kernel_rfl) (fun _ _ _ h => h) (Or.inl ⟨by rfl, fun w hSw => by go_simp⟩) trivial ?_
  try simp only [Act.put, List.setIfInBounds_toArray, List.set_cons_zero, List.set_cons_succ]
  refine' Till.take 3 (v := .int .u8 ((hxD hi).toNat : Int)) rfl (by kernel_rfl) (by kernel_rfl) (by kernel_rfl) (by kernel_rfl) (fun _ _ _ h => h) (Or.inl ⟨by rfl, fun w hSw => by have hx := hexAt hi hib w; go_simp⟩) trivial ?_
  try simp only [Act.put, List.setIfInBounds_toArray, List.set_cons_zero, List.set_cons_succ]
  refine' Till.take 4 rfl (by kernel_rfl) (by kernel_rfl) (by kernel_rfl) (by kernel_rfl) (fun _ _ _ h => h) (Or.inl ⟨by rfl, ?_⟩) trivial ?_
  rotate_left
  · (intro w hSw; (try dsimp only at hSw); go_simp <;> with_reducible rfl)
  try simp only [Act.put, List.setIfInBounds_toArray, List.set_cons_zero, List.set_cons_succ]
  refine' Till.take 5 (v := .int .u8 (lo : Int)) rfl (by kernel_rfl) (by kernel_rfl) (by kernel_rfl) (by kernel_rfl) (fun _ _ _ h => h) (Or.inl ⟨by rfl, fun w hSw => by go_simp⟩) trivial ?_
  try simp only [Act.put, List.setIfInBounds_toArray, List.set_cons_zero, List.set_cons_succ]
  refine' Till.take 6 (v := .int .u8 ((hxD lo).toNat : Int)) rfl (by kernel_rfl) (by kernel_rfl) (by kernel_rfl) (by kernel_rfl) (fun _ _ _ h => h) (Or.inl ⟨by rfl, fun w hSw => by have hx := hexAt lo lob w; go_simp⟩) trivial ?_
  try simp only [Act.put, List.setIfInBounds_toArray, List.set_cons_zero, List.set_cons_succ]
  refine Till.one 7 (by kernel_rfl) rfl (fun K hK => ?_)
  go_simp
  refine hK.out _ _ ?_ (fun hHeld => ?_)
  · trivial
  clear hK K
  try simp only [Act.put, List.setIfInBounds_toArray, List.set_cons_zero, List.set_cons_succ]
  refine Till.one 8 (by kernel_rfl) rfl (fun K hK => ?_)
  refine step_append_gbs (W := W) (w := w) rfl (.tmp 5) (.tmp 12) rfl v (.slice (some ⟨w.heap.size, 0, none⟩) 2 2) b [hxD hi, hxD lo] (by first | rfl | simp [Act.eval, Act.put]) (by first | rfl | simp [Act.eval, Act.put]) h ((Below.refl _ w).drew.alloc (Nat.le_refl _) _) (src_bytes w.drew [hxD hi, hxD lo] 2 _ _ rfl rfl (by simp)) (by simp; omega) ?_
  intro v' w7 hg7
  refine hK.out _ _ trivial (fun hHeld => ?_)
  clear hK K
  try simp only [Act.put, List.setIfInBounds_toArray, List.set_cons_zero, List.set_cons_succ]
  refine Till.last (by kernel_rfl) (by kernel_rfl) rfl (fun K hK => ?_)
  go_simp
  refine hK.out _ _ ?_
  clear hK K
  try simp only [Act.put, List.setIfInBounds_toArray, List.set_cons_zero, List.set_cons_succ]
  refine NoPanic.normal ?_
  go_wp2
  go_ret
  exact ⟨_, rfl, hg7⟩
end Go.Proofs.YtlnppgjppfkocaaDoor.Xs
