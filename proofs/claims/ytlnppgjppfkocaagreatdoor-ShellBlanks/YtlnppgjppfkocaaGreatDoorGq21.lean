import Derived.Test.YtlnppgjppfkocaaGreatDoorGq20
import Derived.Test.YtlnppgjppfkocaaGreatDoorGq16
/-! The program's writer: bytes in two digits, numbers, texts. -/
namespace Go.Proofs.YtlnppgjppfkocaaGreatDoor.Xs
open Go.RowKit Plain
set_option linter.unusedVariables false
set_option linter.unusedSimpArgs false

theorem src_bytes (w : World) (ys : By) (n : Nat) (C : Array Value) (t : TypeId) (hC : C = (cellsOf (nats ys)).toArray) (hn : n = ys.length) (hm : ys.length ≤ 1000) : Src Tryz.prog 1 25 (.slice (some ⟨w.heap.size, 0, none⟩) n n) (nats ys).length (cellsOf (nats ys)) (w.alloc (.cells C t)) := by
  subst hn
  have hs : C.size = ys.length := by rw [hC, List.size_toArray, cellsOf_len, nats_len]
  have h := Own.new w C (nats ys) ys.length t (nats_lt ys) hs (by rw [nats_len]; exact Nat.le_refl _) (by unfold maxLen; omega) (fun j hj => by rw [hC, List.getElem?_toArray, cellsOf_get _ _ hj])
  rw [nats_len] at h
  have := src_of Tryz.underlying25 h.bytes
  exact this
/-- append of some bytes, which lie in a block of their own. -/
theorem wpList_append_gbs {ops : Array Oper} {rest : List Oper} {o : Oper} {a : Act} {Q : Exit → Act → World → Prop} {W : World} (w w1 : World) (hgd : o.guard = none) (s x : Operand)
    (ho : o.op = .call { callee := .builtin .append, args := #[s, x], argTypes := #[25, 25] }) (v xv : Value) (l ys : By)
    (hs : a.eval s = v) (hx : a.eval x = xv) (h : Gb W w v l) (hb1 : Below w.heap.size w w1) (hsrc : Src Tryz.prog 1 25 xv (nats ys).length (cellsOf (nats ys)) w1) (hlen : l.length + ys.length ≤ 140737488355000)
    (hK : ∀ v' w', Gb W w' v' (l ++ ys) → wpList Tryz.prog ops Q rest (a.put o.dst v') w') : wpList Tryz.prog ops Q (o :: rest) a w1 := by
  obtain ⟨r, h1, h2, h3⟩ := h
  refine wpList_append_row w1 hgd s x 25 25 ho Tryz.underlying25 v xv (nats l) (nats ys) r hs hx (h1.later hb1) (nats_lt ys) hsrc (by rw [nats_len, nats_len]; omega) ?_
  intro v' w' r' ho' hg' hr' _
  refine hK v' w' ⟨r', by rw [nats_app]; exact ho', fun g e => ?_, ?_⟩
  · rcases hr' with k | k
    · exact h2 g (by rw [← k]; exact e)
    · rw [k] at e; cases e; exact Nat.le_trans h3.size hb1.size
  · exact (h3.trans (hb1.mono h3.size)).trans (grow_below hg' (Nat.le_trans h3.size hb1.size) h2)
theorem hexAt (n : Nat) (hn : n < 16) (w : World) : (Instr.index 9 (.string ⟨#[48, 49, 50, 51, 52, 53, 54, 55, 56, 57, 97, 98, 99, 100, 101, 102]⟩) (.int .u8 (n : Int))).run Tryz.prog w = .ok (.int .u8 ((hxD n).toNat : Int)) w := by
  have key : ∀ i : Fin 16, ((⟨#[48, 49, 50, 51, 52, 53, 54, 55, 56, 57, 97, 98, 99, 100, 101, 102]⟩ : ByteArray)[i.val]'(by have := i.isLt; exact this)) = hxD i.val := by decide
  have hs : (⟨#[48, 49, 50, 51, 52, 53, 54, 55, 56, 57, 97, 98, 99, 100, 101, 102]⟩ : ByteArray).size = 16 := by decide
  simp only [Go.run_index_string (P := Tryz.prog) (h := Tryz.underlying9)]
  rw [dif_pos ⟨by omega, by omega⟩]
  have hk := key ⟨n, hn⟩
  simp only at hk
  rw [← hk]
  rfl
theorem step_append_gbs {ops : Array Oper} {o : Oper} {a : Act} {w w1 W : World} {K : Act → World → Prop} {Q : Exit → Act → World → Prop} {E : Prop}
    (hg : o.guard = none) (s x : Operand) (hop : o.op = Op.call { callee := Callee.builtin Builtin.append, args := #[s, x], argTypes := #[25, 25] }) (v xv : Value) (l ys : By)
    (hs : a.eval s = v) (hx : a.eval x = xv) (h : Gb W w v l) (hb1 : Below w.heap.size w w1) (hsrc : Src Tryz.prog 1 25 xv (nats ys).length (cellsOf (nats ys)) w1) (hlen : l.length + ys.length ≤ 140737488355000)
    (hK : ∀ v' w', Gb W w' v' (l ++ ys) → K (a.put o.dst v') w') :
    if Region.wanted o (yielded ops a.tmps) = true then Oper.wp Tryz.prog o a w1 K Q else E := by
  have hw : Region.wanted o (yielded ops a.tmps) = true := by simp [Region.wanted, hg]
  rw [if_pos hw]
  obtain ⟨r, h1, h2, h3⟩ := h
  obtain ⟨v', w', r', hrun, k1, k2, k3, k4⟩ := run_append_row w1 25 25 o.type Tryz.underlying25 v xv (nats l) (nats ys) r (h1.later hb1) (nats_lt ys) hsrc (by rw [nats_len, nats_len]; omega)
  unfold Oper.wp
  simp [execOp, hop, resolve, invoke, builtin, hs, hx, hrun, Result.andThen]
  refine hK v' w' ⟨r', by rw [nats_app]; exact k1, fun g e => ?_, ?_⟩
  · rcases k3 with k | k
    · exact h2 g (by rw [← k]; exact e)
    · rw [k] at e; cases e; exact Nat.le_trans h3.size hb1.size
  · exact (h3.trans (hb1.mono h3.size)).trans (grow_below k2 (Nat.le_trans h3.size hb1.size) h2)
theorem hex_lo (c : UInt8) : bits .and .u8 (c.toNat : Int) 15 = ((c.toNat % 16 : Nat) : Int) := by
  have : ∀ i : Fin 256, bits .and .u8 ((i.val : Nat) : Int) 15 = ((i.val % 16 : Nat) : Int) := by decide +kernel
  exact this ⟨c.toNat, c.toNat_lt⟩
set_option maxHeartbeats 4000000 in
set_option maxRecDepth 100000 in
theorem appByteOf (c : UInt8) (W w : World) (v : Value) (b : By) (h : Gb W w v b) (hl : b.length ≤ 140737488354000) :
    Calls Tryz.prog 94 #[v, .int .u8 (c.toNat : Int)] w fun e w' => ∃ v', e = .returned v' ∧ Gb W w' v' (b ++ hxB c) := by
  have hlt := c.toNat_lt
  obtain ⟨hi, hhi⟩ : ∃ n, c.toNat / 16 = n := ⟨_, rfl⟩
  obtain ⟨lo, hlo⟩ : ∃ n, c.toNat % 16 = n := ⟨_, rfl⟩
  have hib : hi < 16 := by omega
  have lob : lo < 16 := by omega
  have hx : hxB c = [hxD hi, hxD lo] := by unfold hxB; rw [hhi, hlo]
  have hhi' : (c.toNat : Int) / 16 = (hi : Int) := by omega
  have hlo' : bits .and .u8 (c.toNat : Int) 15 = (lo : Int) := by rw [hex_lo, hlo]
  rw [hx]
  go_enter Tryz.func94, Tryz.ntmps94
  go_wp2_with fail
  refine wp_region_noPanic ?_
  refine Till.start 9 (S := fun _ => True) (by kernel_rfl) trivial (fun hHeld => ?_)
  refine' Till.take 0 rfl (by kernel_rfl) (by kernel_rfl) (by kernel_rfl) (by kernel_rfl) (fun _ _ _ h => h) (Or.inl ⟨by rfl, ?_⟩) trivial ?_
  rotate_left
  · (intro w hSw; (try dsimp only at hSw); go_simp <;> with_reducible rfl)
  try simp only [Act.put, List.setIfInBounds_toArray, List.set_cons_zero, List.set_cons_succ]
  refine' Till.take 1 rfl (by kernel_rfl) (by kernel_rfl) (by kernel_rfl) (by kernel_rfl) (fun _ _ _ h => h) (Or.inl ⟨by rfl, ?_⟩) trivial ?_
  rotate_left
  · (intro w hSw; (try dsimp only at hSw); go_simp <;> with_reducible rfl)
  try simp only [Act.put, List.setIfInBounds_toArray, List.set_cons_zero, List.set_cons_succ]
  refine' Till.take 2 (v := .int .u8 (hi : Int)) rfl (by kernel_rfl) (by kernel_rfl) (by kernel_rfl) (by kernel_rfl) (fun _ _ _ h => h) (Or.inl ⟨by rfl, fun w hSw => by go_simp⟩) trivial ?_
  try simp only [Act.put, List.setIfInBounds_toArray, List.set_cons_zero, List.set_cons_succ]
  refine' Till.take 3 (v := .int .u8 ((hxD hi).toNat : Int)) rfl (by kernel_rfl) (by kernel_rfl) (by kernel_rfl) (by kernel_rfl) (fun _ _ _ h => h) (Or.inl ⟨by rfl, fun w hSw => by have hx := hexAt hi hib w; go_simp⟩) trivial ?_
  try simp only [Act.put, List.setIfInBounds_toArray, List.set_cons_zero, List.set_cons_succ]
  refine' Till.take 4 rfl (by kernel_rfl) (by kernel_rfl) (by kernel_rfl) (by kernel_rfl) (fun _ _ _ h => h) (Or.inl ⟨by rfl, ?_⟩) trivial ?_
  rotate_left
  · (intro w hSw; (try dsimp only at hSw); go_simp <;> with_reducible rfl)
  try simp only [Act.put, List.setIfInBounds_toArray, List.set_cons_zero, List.set_cons_succ]
  refine' Till.take 5 (v := .int .u8 (lo : Int)) rfl (by kernel_rfl) (by kernel_rfl) (by kernel_rfl) (by kernel_rfl) (fun _ _ _ h => h) (Or.inl ⟨by rfl, fun w hSw => by go_simp⟩) trivial ?_
  try simp only [Act.put, List.setIfInBounds_toArray, List.set_cons_zero, List.set_cons_succ]
  refine' Till.take 6 (v := .int .u8 ((hxD lo).toNat : Int)) rfl (by kernel_rfl) (by kernel_rfl) (by kernel_rfl) (by kernel_rfl) (fun _ _ _ h => h) (Or.inl ⟨by rfl, fun w hSw => by have hx := hexAt lo lob w; go_simp⟩) trivial ?_
  try simp only [Act.put, List.setIfInBounds_toArray, List.set_cons_zero, List.set_cons_succ]
  refine Till.one 7 (by kernel_rfl) rfl (fun K hK => ?_)
  go_simp
  refine hK.out _ _ ?_ (fun hHeld => ?_)
  · trivial
  clear hK K
  try simp only [Act.put, List.setIfInBounds_toArray, List.set_cons_zero, List.set_cons_succ]
  refine Till.one 8 (by kernel_rfl) rfl (fun K hK => ?_)
  refine step_append_gbs (W := W) (w := w) rfl (.tmp 5) (.tmp 12) rfl v (.slice (some ⟨w.heap.size, 0, none⟩) 2 2) b [hxD hi, hxD lo] (by first | rfl | simp [Act.eval, Act.put]) (by first | rfl | simp [Act.eval, Act.put]) h ((Below.refl _ w).drew.alloc (Nat.le_refl _) _) (src_bytes w.drew [hxD hi, hxD lo] 2 _ _ rfl rfl (by simp)) (by simp; omega) ?_
  intro v' w7 hg7
  refine hK.out _ _ trivial (fun hHeld => ?_)
  clear hK K
  try simp only [Act.put, List.setIfInBounds_toArray, List.set_cons_zero, List.set_cons_succ]
  refine Till.last (by kernel_rfl) (by kernel_rfl) rfl (fun K hK => ?_)
  go_simp
  refine hK.out _ _ ?_
  clear hK K
  try simp only [Act.put, List.setIfInBounds_toArray, List.set_cons_zero, List.set_cons_succ]
  refine NoPanic.normal ?_
  go_wp2
  go_ret
  exact ⟨_, rfl, hg7⟩
end Go.Proofs.YtlnppgjppfkocaaGreatDoor.Xs

/-! The program's writer: quoted. -/
namespace Go.Proofs.YtlnppgjppfkocaaGreatDoor.Xs
open Go.RowKit Plain
set_option linter.unusedVariables false
set_option linter.unusedSimpArgs false

theorem esc_len (c : UInt8) : (esc c).length ≤ 4 := by
  unfold esc
  split
  · simp
  · split
    · simp
    · split <;> simp [hxB]
theorem mkW {p : Prop} (h : p) : Hid p := h
theorem byte_neN {c : UInt8} {n : Nat} (hn : n < 256) (h : c ≠ UInt8.ofNat n) : ((c.toNat : Int) == (n : Int)) = false := by
  rw [beq_eq_false_iff_ne]
  intro e
  refine h (UInt8.toNat_inj.1 ?_)
  rw [UInt8.toNat_ofNat_of_lt' (by exact hn)]
  omega
set_option maxHeartbeats 8000000 in
set_option maxRecDepth 100000 in
theorem quotedOf (s : By) (hs : s.length ≤ 8796093022208) (w : World) :
    Calls Tryz.prog 60 #[.string (ba s)] w fun e w' => e = .returned (.string (ba (34 :: (s.flatMap esc ++ [34])))) ∧ Below w.heap.size w w' := by
  have hsz : (ba s).size = s.length := rfl
  have HG0 : Hid (Gb w (w.alloc (.cells #[.int .u8 34] 5)) (.slice (some ⟨w.heap.size, 0, none⟩) 1 1) [34]) := by
    refine ⟨some w.heap.size, Own.new w _ (nats [34]) 1 5 (nats_lt _) rfl (by simp [nats]) (by unfold maxLen; omega) (fun j hj => ?_), fun g e => by cases e; exact Nat.le_refl _, (Below.refl _ w).alloc (Nat.le_refl _) _⟩
    have : j = 0 := by simp [nats] at hj; omega
    subst this
    rfl
  go_enter Tryz.func60, Tryz.ntmps60
  go_wp2
  go_loopw [3, 9] (fun v i wl => ∃ (k : Nat) (b : By) (a : Option Addr) (cap : Nat), k ≤ s.length ∧ i = .int .i64 k ∧ v = .slice a b.length cap ∧ Hid (b = 34 :: (s.take k).flatMap esc) ∧ b.length ≤ 1 + 4 * k ∧ Hid (Gb w wl (.slice a b.length cap) b)) (fun _ i _ => s.length + 10 - (intOf i).toNat)
  case atStart => exact ⟨0, [34], _, _, Nat.zero_le _, rfl, rfl, rfl, by simp, HG0⟩
  case round =>
    clear HG0
    obtain ⟨k, b, a, cap, hk, rfl, rfl, HB, hbl, HG⟩ := hrel
    by_cases hp : k < s.length
    · have hki : (k : Int) < (s.length : Int) := by omega
      have hkb : k < (ba s).size := hp
      have hbg := ba_get hkb
      obtain ⟨c, hc⟩ : ∃ c, s.getD k 0 = c := ⟨_, rfl⟩
      rw [hc] at hbg
      have hz : (((ba s)[k]'hkb).toNat : Int) = (c.toNat : Int) := by rw [hbg]
      clear hbg
      have HB2 : Hid (b ++ esc c = 34 :: (s.take (k + 1)).flatMap esc) := by
        unfold Hid
        rw [HB.out, take_at hp, hc, List.flatMap_append]
        simp
      have hel := esc_len c
      have hb2 : (b ++ esc c).length ≤ 1 + 4 * (k + 1) := by rw [List.length_append]; omega
      clear hc
      by_cases c34 : c = 34
      · subst c34
        have he : esc 34 = [92, 34] := by decide
        rw [he] at HB2 hb2
        have HG3 : Hid True := trivial
        clear hel he HG3
        go_wp2_with (at_builtin; refine wpList_append_gbs wr _ rfl _ _ rfl _ _ b [92, 34] rfl rfl HG.out ?hBel ?hSrc ?hLen ?_)
        case hBel => exact (Below.refl _ _).alloc (Nat.le_refl _) _
        case hSrc => exact src_bytes wr [92, 34] _ _ _ rfl rfl (by simp)
        case hLen => (first | omega | (show b.length + 2 ≤ _; omega) | (show b.length + 1 ≤ _; omega))
        intro v' w3 hg3
        obtain ⟨a3, c3, rfl⟩ := hg3.slice
        have HG3 := mkW hg3
        obtain ⟨b3, hb3⟩ : ∃ x, b ++ [92, 34] = x := ⟨_, rfl⟩
        rw [hb3] at HG3 HB2 hb2 ⊢
        clear hg3 hb3 HB HG
        go_wp2
        go_roundw
        case rel => exact ⟨k + 1, b3, a3, c3, by omega, by go_num, rfl, HB2, hb2, HG3⟩
        case measure => (first | (simp [intOf]; omega) | omega | (show _ < _; simp only [intOf]; omega))
      · have h34 : ((c.toNat : Int) == 34) = false := byte_neN (n := 34) (by omega) c34
        by_cases c92 : c = 92
        · subst c92
          have he : esc 92 = [92, 92] := by decide
          rw [he] at HB2 hb2
          clear hel he
          go_wp2_with (at_builtin; refine wpList_append_gbs wr _ rfl _ _ rfl _ _ b [92, 92] rfl rfl HG.out ?hBel ?hSrc ?hLen ?_)
          case hBel => exact (Below.refl _ _).alloc (Nat.le_refl _) _
          case hSrc => exact src_bytes wr [92, 92] _ _ _ rfl rfl (by simp)
          case hLen => (first | omega | (show b.length + 2 ≤ _; omega) | (show b.length + 1 ≤ _; omega))
          intro v' w3 hg3
          obtain ⟨a3, c3, rfl⟩ := hg3.slice
          have HG3 := mkW hg3
          obtain ⟨b3, hb3⟩ : ∃ x, b ++ [92, 92] = x := ⟨_, rfl⟩
          rw [hb3] at HG3 HB2 hb2 ⊢
          clear hg3 hb3 HB HG
          go_wp2
          go_roundw
          case rel => exact ⟨k + 1, b3, a3, c3, by omega, by go_num, rfl, HB2, hb2, HG3⟩
          case measure => (first | (simp [intOf]; omega) | omega | (show _ < _; simp only [intOf]; omega))
        · have h92 : ((c.toNat : Int) == 92) = false := byte_neN (n := 92) (by omega) c92
          by_cases c32 : 32 ≤ c.toNat ∧ c.toNat ≤ 126
          · have he : esc c = [c] := by unfold esc; rw [if_neg c34, if_neg c92, if_pos c32]
            have l32 : (32 : Int) ≤ (c.toNat : Int) := by omega
            have l126 : (c.toNat : Int) ≤ 126 := by omega
            rw [he] at HB2 hb2
            clear hel he c34 c92 c32
            go_wp2_with (at_builtin; refine wpList_append_gbs wr _ rfl _ _ rfl _ _ b [c] rfl rfl HG.out ?hBel ?hSrc ?hLen ?_)
            case hBel => exact (Below.refl _ _).alloc (Nat.le_refl _) _
            case hSrc => exact src_bytes wr [c] _ _ _ rfl rfl (by simp)
            case hLen => (first | omega | (show b.length + 2 ≤ _; omega) | (show b.length + 1 ≤ _; omega))
            intro v' w3 hg3
            obtain ⟨a3, c3, rfl⟩ := hg3.slice
            have HG3 := mkW hg3
            obtain ⟨b3, hb3⟩ : ∃ x, b ++ [c] = x := ⟨_, rfl⟩
            rw [hb3] at HG3 HB2 hb2 ⊢
            clear hg3 hb3 HB HG
            go_wp2
            go_roundw
            case rel => exact ⟨k + 1, b3, a3, c3, by omega, by go_num, rfl, HB2, hb2, HG3⟩
            case measure => (first | (simp [intOf]; omega) | omega | (show _ < _; simp only [intOf]; omega))
          · have he : esc c = [92, 120] ++ hxB c := by unfold esc; rw [if_neg c34, if_neg c92, if_neg c32]; rfl
            have hl : (hxB c).length = 2 := rfl
            rw [he, ← List.append_assoc] at HB2 hb2
            clear hel he c34 c92
            rcases Nat.lt_or_ge c.toNat 32 with c32 | c32
            · have l32 : ¬ (32 : Int) ≤ (c.toNat : Int) := by omega
              go_wp2_with (at_builtin; refine wpList_append_gbs wr _ rfl _ _ rfl _ _ b [92, 120] rfl rfl HG.out ?hBel ?hSrc ?hLen ?_)
              case hBel => exact (Below.refl _ _).alloc (Nat.le_refl _) _
              case hSrc => exact src_bytes wr [92, 120] _ _ _ rfl rfl (by simp)
              case hLen => (first | omega | (show b.length + 2 ≤ _; omega) | (show b.length + 1 ≤ _; omega))
              intro v' w3 hg3
              obtain ⟨a3, c3, rfl⟩ := hg3.slice
              have HG3 := mkW hg3
              have hl3 : (b ++ [92, 120]).length ≤ 4 * k + 3 := by simp; omega
              obtain ⟨b3, hb3⟩ : ∃ x, b ++ [92, 120] = x := ⟨_, rfl⟩
              rw [hb3] at HG3 HB2 hb2 hl3 ⊢
              clear hg3 hb3 HB HG
              go_wp2_with (go_at_call 94; refine (appByteOf c w _ _ b3 HG3.out (by omega)).mono ?_; rintro e w4 ⟨v4, rfl, hg4⟩)
              obtain ⟨a4, c4, rfl⟩ := hg4.slice
              have HG4 := mkW hg4
              obtain ⟨b4, hb4⟩ : ∃ x, b3 ++ hxB c = x := ⟨_, rfl⟩
              rw [hb4] at HG4 HB2 hb2 ⊢
              clear hg4 hb4 HG3
              go_wp2
              go_roundw
              case rel => exact ⟨k + 1, b4, a4, c4, by omega, by go_num, rfl, HB2, hb2, HG4⟩
              case measure => (first | (simp [intOf]; omega) | omega | (show _ < _; simp only [intOf]; omega))
            · have l32 : (32 : Int) ≤ (c.toNat : Int) := by omega
              have l126 : ¬ (c.toNat : Int) ≤ 126 := by omega
              go_wp2_with (at_builtin; refine wpList_append_gbs wr _ rfl _ _ rfl _ _ b [92, 120] rfl rfl HG.out ?hBel ?hSrc ?hLen ?_)
              case hBel => exact (Below.refl _ _).alloc (Nat.le_refl _) _
              case hSrc => exact src_bytes wr [92, 120] _ _ _ rfl rfl (by simp)
              case hLen => (first | omega | (show b.length + 2 ≤ _; omega) | (show b.length + 1 ≤ _; omega))
              intro v' w3 hg3
              obtain ⟨a3, c3, rfl⟩ := hg3.slice
              have HG3 := mkW hg3
              have hl3 : (b ++ [92, 120]).length ≤ 4 * k + 3 := by simp; omega
              obtain ⟨b3, hb3⟩ : ∃ x, b ++ [92, 120] = x := ⟨_, rfl⟩
              rw [hb3] at HG3 HB2 hb2 hl3 ⊢
              clear hg3 hb3 HB HG
              go_wp2_with (go_at_call 94; refine (appByteOf c w _ _ b3 HG3.out (by omega)).mono ?_; rintro e w4 ⟨v4, rfl, hg4⟩)
              obtain ⟨a4, c4, rfl⟩ := hg4.slice
              have HG4 := mkW hg4
              obtain ⟨b4, hb4⟩ : ∃ x, b3 ++ hxB c = x := ⟨_, rfl⟩
              rw [hb4] at HG4 HB2 hb2 ⊢
              clear hg4 hb4 HG3
              go_wp2
              go_roundw
              case rel => exact ⟨k + 1, b4, a4, c4, by omega, by go_num, rfl, HB2, hb2, HG4⟩
              case measure => (first | (simp [intOf]; omega) | omega | (show _ < _; simp only [intOf]; omega))
    · have hki : ¬ (k : Int) < (s.length : Int) := by omega
      have hke : k = s.length := by omega
      subst hke
      have HB1 : Hid (b ++ [34] = 34 :: (s.flatMap esc ++ [34])) := by
        unfold Hid
        rw [HB.out, List.take_length]; rfl
      clear HB
      go_wp2_with (at_builtin; refine wpList_append_gbs wr _ rfl _ _ rfl _ _ b [34] rfl rfl HG.out ?hBel ?hSrc ?hLen ?_)
      case hBel => exact (Below.refl _ _).alloc (Nat.le_refl _) _
      case hSrc => exact src_bytes wr [34] _ _ _ rfl rfl (by simp)
      case hLen => (first | omega | (show b.length + 2 ≤ _; omega) | (show b.length + 1 ≤ _; omega))
      intro v' w3 hg3
      rw [HB1.out] at hg3
      have hcv := conv_gb hg3 w3 (Below.refl _ _)
      have HB3 : Hid (Below w.heap.size w w3) := hg3.below
      clear hg3 HB1 HG
      go_wp2
      go_ret
      exact ⟨rfl, HB3.out⟩
end Go.Proofs.YtlnppgjppfkocaaGreatDoor.Xs

/-! The program's reader: parts of a line that are gone through. -/
namespace Go.Proofs.YtlnppgjppfkocaaGreatDoor.Xs
open Go.RowKit Plain
set_option linter.unusedVariables false
set_option linter.unusedSimpArgs false

/-- What giveUp panics with. -/
def gaveE : PanicEntry := { v := .iface 29 (.int .i64 230), recovered := false }
theorem gaveOf (w : World) : Calls Tryz.prog 27 #[] w fun e w' => e = .panicked [gaveE] ∧ w' = w := by
  go_enter Tryz.func27, Tryz.ntmps27
  go_wp2
  exact ⟨rfl, rfl, rfl⟩
/-- Of the blocks that were there only those of S have turned. -/
structure Ch (S : Nat → Prop) (w w' : World) : Prop where
  os : w'.os = w.os
  tape : w'.tape = w.tape
  output : w'.output = w.output
  size : w.heap.size ≤ w'.heap.size
  block : ∀ k, k < w.heap.size → ¬ S k → w'.heap[k]? = w.heap[k]?
theorem Ch.refl (S : Nat → Prop) (w : World) : Ch S w w := ⟨rfl, rfl, rfl, Nat.le_refl _, fun _ _ _ => rfl⟩
theorem Ch.grown {S : Nat → Prop} {a b c : World} {r : Option Nat} (h : Ch S a b) (k : b.grownBy c r) (hr : ∀ g, r = some g → S g ∨ a.heap.size ≤ g) : Ch S a c :=
  ⟨k.os.trans h.os, k.tape.trans h.tape, k.output.trans h.output, Nat.le_trans h.size k.size, fun i hi hs => by
    rw [k.block i (Nat.lt_of_lt_of_le hi h.size) (fun e => by
      rcases hr i e.symm with h1 | h1
      · exact hs h1
      · omega)]
    exact h.block i hi hs⟩
theorem Ch.more {S : Nat → Prop} {a b c : World} (h : Ch S a b) (k : Below b.heap.size b c) : Ch S a c :=
  ⟨k.os.trans h.os, k.tape.trans h.tape, k.output.trans h.output, Nat.le_trans h.size k.size, fun i hi hs => (k.block i (Nat.lt_of_lt_of_le hi h.size)).trans (h.block i hi hs)⟩
theorem Ch.of {S : Nat → Prop} {a b : World} (k : Below a.heap.size a b) : Ch S a b := (Ch.refl S a).more k
theorem Ch.trans {S : Nat → Prop} {a b c : World} (h : Ch S a b) (k : Ch S b c) : Ch S a c :=
  ⟨k.os.trans h.os, k.tape.trans h.tape, k.output.trans h.output, Nat.le_trans h.size k.size, fun i hi hs => (k.block i (Nat.lt_of_lt_of_le hi h.size) hs).trans (h.block i hi hs)⟩
theorem Ch.mono {S T : Nat → Prop} {a b : World} (h : Ch S a b) (hs : ∀ k, S k → T k) : Ch T a b := ⟨h.os, h.tape, h.output, h.size, fun k hk hn => h.block k hk (fun e => hn (hs k e))⟩
theorem Ch.below {S : Nat → Prop} {w w' : World} {B : Nat} (h : Ch S w w') (hB : B ≤ w.heap.size) (hS : ∀ k, S k → B ≤ k) : Below B w w' :=
  ⟨h.os, h.tape, h.output, h.size, fun k hk => h.block k (by omega) (fun hs => by have := hS k hs; omega)⟩
theorem Ch.on {S : Nat → Prop} {W w w' : World} (hb : Below W.heap.size W w) (h : Ch S w w') (hS : ∀ k, S k → W.heap.size ≤ k) : Below W.heap.size W w' := hb.trans (h.below hb.size hS)
theorem Ch.set {S : Nat → Prop} {a b : World} (h : Ch S a b) {g : Nat} (o : Nat) (x : Value) (hg : S g) : Ch S a (b.setCell ⟨g, o, none⟩ x) := h.grown (grow_setCells b g o [x]) (fun j e => by cases e; exact .inl hg)
/-- At g lies a reader; the parts ps are left, in the block b. -/
structure RdAt (w : World) (g b : Nat) (ps : List By) : Prop where
  ex : ∃ k cap, w.cell? ⟨g, 0, none⟩ = some (.slice (some ⟨b, k, none⟩) ps.length cap) ∧ ps.length ≤ cap ∧ cap ≤ maxLen ∧ ∀ i, i < ps.length → w.cell? ⟨b, k + i, none⟩ = some (.string (ba (ps.getD i [])))
  fz : w.frozen? ⟨g, 0, none⟩ = false
  lt : b < w.heap.size
  ne : b ≠ g
theorem RdAt.glt {w : World} {g b : Nat} {ps : List By} (h : RdAt w g b ps) : g < w.heap.size := by
  obtain ⟨_, _, h1, _⟩ := h.ex
  exact cell_lt h1
theorem RdAt.same {w w' : World} {g b : Nat} {ps : List By} (h : RdAt w g b ps) (hs : w.heap.size ≤ w'.heap.size) (hg : w'.heap[g]? = w.heap[g]?) (hb : w'.heap[b]? = w.heap[b]?) : RdAt w' g b ps := by
  obtain ⟨k, cap, h1, h2, h3, h4⟩ := h.ex
  exact ⟨⟨k, cap, (World.cell?_of_block (w := w) (a := ⟨g, 0, none⟩) hg).trans h1, h2, h3, fun i hi => (World.cell?_of_block (w := w) (a := ⟨b, k + i, none⟩) hb).trans (h4 i hi)⟩, (World.frozen?_of_block (w := w) (a := ⟨g, 0, none⟩) hg).trans h.fz, Nat.lt_of_lt_of_le h.lt hs, h.ne⟩
theorem RdAt.later {w w' : World} {g b : Nat} {ps : List By} (h : RdAt w g b ps) (hb : Below w.heap.size w w') : RdAt w' g b ps := h.same hb.size (hb.block g h.glt) (hb.block b h.lt)
theorem RdAt.ch {w w' : World} {g b : Nat} {ps : List By} {S : Nat → Prop} (h : RdAt w g b ps) (k : Ch S w w') (h1 : ¬ S g) (h2 : ¬ S b) : RdAt w' g b ps := h.same k.size (k.block g h.glt h1) (k.block b h.lt h2)
theorem RdAt.grown {w w' : World} {g b : Nat} {ps : List By} {r : Option Nat} (h : RdAt w g b ps) (k : w.grownBy w' r) (h1 : r ≠ some g) (h2 : r ≠ some b) : RdAt w' g b ps := h.same k.size (k.block g h.glt (fun e => h1 e.symm)) (k.block b h.lt (fun e => h2 e.symm))
/-- What word answers. -/
def WordP (w : World) (g b : Nat) (ps : List By) (e : Ending) (w' : World) : Prop := (∃ p qs, ps = p :: qs ∧ e = .returned (.string (ba p)) ∧ RdAt w' g b qs ∧ Ch (· = g) w w') ∨ (ps = [] ∧ e = .panicked [gaveE] ∧ w' = w)
set_option maxHeartbeats 1600000 in
theorem rWordOf (w : World) (g b : Nat) (ps : List By) (h : RdAt w g b ps) :
    Calls Tryz.prog 45 #[.pointer (some ⟨g, 0, none⟩)] w (WordP w g b ps) := by
  have HR := h
  obtain ⟨k, cap, h1, h2, h3, h4⟩ := h.ex
  have hf := h.fz
  cases ps with
  | nil =>
    clear HR h h4
    simp only [List.length_nil] at h1
    go_enter Tryz.func45, Tryz.ntmps45
    go_wp2_with (go_at_call 27; refine (gaveOf _).mono ?_; rintro e w1 ⟨rfl, rfl⟩)
    exact ⟨by trivial, Or.inr ⟨rfl, rfl, rfl⟩⟩
  | cons p qs =>
    have hc0 : w.cell? ⟨b, k, none⟩ = some (.string (ba p)) := h4 0 (by simp)
    have hl : ((p :: qs).length : Int) = (qs.length : Int) + 1 := by simp
    have HS : ∀ k' cap', (k' = k + 1 ∨ qs.length = 0) → qs.length ≤ cap' → cap' ≤ maxLen → RdAt (w.setCell ⟨g, 0, none⟩ (.slice (some ⟨b, k', none⟩) qs.length cap')) g b qs ∧ w.grownBy (w.setCell ⟨g, 0, none⟩ (.slice (some ⟨b, k', none⟩) qs.length cap')) (some g) := fun k' cap' hk h5 h6 => by
      have hgr := grow_setCells w g 0 [Value.slice (some ⟨b, k', none⟩) qs.length cap']
      refine ⟨⟨⟨k', cap', World.cell?_setCell_same w _ _ h1, h5, h6, fun i hi => ?_⟩, by rw [World.frozen?_setCell]; exact hf, Nat.lt_of_lt_of_le h.lt hgr.size, h.ne⟩, hgr⟩
      have hk' : k' = k + 1 := hk.resolve_right (by omega)
      have := h4 (i + 1) (by simp only [List.length_cons]; omega)
      subst hk'
      rw [World.cell?_setCell_other w _ _ _ (fun e => h.ne (congrArg Addr.block e).symm)]
      rw [show k + 1 + i = k + (i + 1) by omega, this]
      simp
    simp only [List.length_cons] at h1 h2
    have HS' := mkW HS
    clear HS
    clear h hl
    go_enter Tryz.func45, Tryz.ntmps45
    go_wp2
    · go_ret
      obtain ⟨k1, k2⟩ := HS'.out k 0 (.inr (by omega)) (by omega) (by omega)
      exact Or.inl ⟨p, qs, rfl, rfl, k1, (Ch.refl _ _).grown k2 (fun j e => by cases e; exact .inl rfl)⟩
    · go_ret
      obtain ⟨k1, k2⟩ := HS'.out (k + 1) (cap - 1) (.inl rfl) (by omega) (by omega)
      exact Or.inl ⟨p, qs, rfl, rfl, k1, (Ch.refl _ _).grown k2 (fun j e => by cases e; exact .inl rfl)⟩
end Go.Proofs.YtlnppgjppfkocaaGreatDoor.Xs
