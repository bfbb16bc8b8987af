import Derived.Test.YtdjaogailfipjabSt
import Derived.Lib.SlBytesConst
namespace Go.Proofs.Ytdjaogailfipjab
open Go.RowKit Plain
set_option linter.unusedVariables false
set_option linter.unusedSimpArgs false

def a6 : List Nat := [97, 97, 97, 97, 97, 97]
def b5 : List Nat := [6, 2, 97, 11, 1]

theorem a6_best0 : Best a6 0 0 0 := .inl ⟨rfl, rfl, fun d' n' h1 h2 => by omega⟩
theorem a6_len : IsLen a6 1 1 (most a6 1) 5 := ⟨by decide, fun k hk => by
  unfold Eqv
  match k, hk with
  | 0, _ => rfl
  | 1, _ => rfl
  | 2, _ => rfl
  | 3, _ => rfl
  | 4, _ => rfl, .inl (by decide)⟩
theorem a6_best1 : Best a6 1 1 5 := by
  refine .inr ⟨by decide, by decide, by decide, by decide, by decide, by decide, a6_len, fun d' n' h1 h2 _ h4 => ?_⟩
  obtain rfl : d' = 1 := by omega
  exact .inr ⟨h4.unique a6_len, Nat.le_refl _⟩
theorem a6_pre : PreP a6 [.lit 0 [97], .mat 1 5] 6 := by
  have h1 : PreP a6 ([] ++ [.lit 0 [97]]) (0 + [97].length) := .lit .nil (by simp) (by simp) (by decide) (by decide) (fun j h1 h2 => by
    have : j = 0 := by simp at h2; omega
    subst this
    exact a6_best0)
  exact .mat (ts := [.lit 0 [97]]) (i := 1) h1 (by omega) a6_best1
theorem a6_dec : DecOk b5 a6 := ⟨by decide, _, a6_pre, by
  show b5 = uv 6 ++ ((uv 2 ++ [97]) ++ ((uv 11 ++ uv 1) ++ []))
  rw [uv_lt (by omega), uv_lt (by omega), uv_lt (by omega), uv_lt (by omega)]
  rfl⟩
theorem a6_blk {ts : List Tk} (h : PreP a6 ts a6.length) : blk a6.length ts = b5 := by
  obtain ⟨_, ss, k1, k2⟩ := a6_dec
  rw [k2]
  exact blk_c (h.unique k1)

/-- Bytes that the text itself lays. -/
theorem own_lit (w : World) (l : List Nat) (C : Array Value) (n : Nat) (hn : l.length = n) (hb : ∀ c ∈ l, c < 256) (hs : C.size = n) (hm : n ≤ 100) (hC : ∀ j, j < l.length → C[j]? = some (.int .u8 ((l.getD j 0 : Nat) : Int))) : Own (w.alloc (.cells C 5)) (.slice (some ⟨w.heap.size, 0, none⟩) n n) l (some w.heap.size) := by
  subst hn
  exact Own.new w C l l.length 5 hb hs (Nat.le_refl _) (by unfold maxLen; omega) hC

theorem a6_get (j : Nat) (h : j < a6.length) : (#[Value.int .u8 97, .int .u8 97, .int .u8 97, .int .u8 97, .int .u8 97, .int .u8 97] : Array Value)[j]? = some (.int .u8 ((a6.getD j 0 : Nat) : Int)) := by
  match j, h with
  | 0, _ => rfl
  | 1, _ => rfl
  | 2, _ => rfl
  | 3, _ => rfl
  | 4, _ => rfl
  | 5, _ => rfl
theorem b5_get (j : Nat) (h : j < b5.length) : (#[Value.int .u8 6, .int .u8 2, .int .u8 97, .int .u8 11, .int .u8 1] : Array Value)[j]? = some (.int .u8 ((b5.getD j 0 : Nat) : Int)) := by
  match j, h with
  | 0, _ => rfl
  | 1, _ => rfl
  | 2, _ => rfl
  | 3, _ => rfl
  | 4, _ => rfl
theorem own_a6 (w : World) : Own (w.alloc (.cells #[.int .u8 97, .int .u8 97, .int .u8 97, .int .u8 97, .int .u8 97, .int .u8 97] 5)) (.slice (some ⟨w.heap.size, 0, none⟩) 6 6) a6 (some w.heap.size) :=
  own_lit w a6 _ 6 rfl (by decide) rfl (by omega) a6_get
theorem own_b5 (w : World) : Own (w.alloc (.cells #[.int .u8 6, .int .u8 2, .int .u8 97, .int .u8 11, .int .u8 1] 5)) (.slice (some ⟨w.heap.size, 0, none⟩) 5 5) b5 (some w.heap.size) :=
  own_lit w b5 _ 5 rfl (by decide) rfl (by omega) b5_get

theorem bytes_a6m (w : World) : BytesAt (w.alloc (.cells #[.int .u8 97, .int .u8 97, .int .u8 97, .int .u8 97, .int .u8 97, .int .u8 97] 5 (6, 7))) (.slice (some ⟨w.heap.size, 0, none⟩) 6 6) a6 := by
  refine ⟨_, 6, rfl, by decide, by unfold maxLen; omega, by decide, fun _ => ⟨_, 0, rfl, fun j hj => ?_⟩⟩
  have h := heap_alloc_new w (.cells #[.int .u8 97, .int .u8 97, .int .u8 97, .int .u8 97, .int .u8 97, .int .u8 97] 5 (6, 7))
  rw [Nat.zero_add]
  simp only [World.cell?, h]
  exact a6_get j hj
theorem conv_a6 (w : World) : (convert 22 22 (.slice (some ⟨w.heap.size, 0, none⟩) 6 6)).run Try.prog (w.alloc (.cells #[.int .u8 97, .int .u8 97, .int .u8 97, .int .u8 97, .int .u8 97, .int .u8 97] 5)) = .ok (.slice (some ⟨w.heap.size, 0, none⟩) 6 6) (w.alloc (.cells #[.int .u8 97, .int .u8 97, .int .u8 97, .int .u8 97, .int .u8 97, .int .u8 97] 5 (6, 7))) :=
  Lib.run_convert_bytes_const w 22 5 _ 6 6 Try.underlying22 Try.underlying5

set_option maxHeartbeats 400000 in
set_option maxRecDepth 1000000 in
theorem encodeLong (v : Value) (l : List Nat) (w : World) (h : BytesAt w v l) (hl : 4096 < l.length) :
    Calls Try.prog 11 #[v] w fun e w' => e = .returned (.tuple #[.slice none 0 0, .int .i64 2]) ∧ w' = w := by
  have HC : Hid (Calls Try.prog 18 #[v] w fun e w' => e = .returned (.tuple #[.slice none 0 0, .int .i64 2]) ∧ w' = w) := tokensLong v l w h hl
  clear h
  go_enter Try.func11, Try.ntmps11
  go_wp2_with fail
  refine HC.out.mono ?_
  rintro e w1 ⟨rfl, rfl⟩
  go_wp2
  go_ret2
  exact ⟨rfl, rfl⟩

set_option maxHeartbeats 1000000 in
set_option maxRecDepth 1000000 in
theorem headOf (w : World) : Calls Try.prog 17 #[] w fun e w' => e = .returned (.bool true) ∧ Below w.heap.size w w' := by
  have HA : Hid (∀ w : World, Below w.heap.size w (w.alloc (.cells #[.int .u8 97, .int .u8 97, .int .u8 97, .int .u8 97, .int .u8 97, .int .u8 97] 5 (6, 7)))) := fun w => (Below.refl _ _).alloc (Nat.le_refl _) _
  have HBb : Hid (∀ w : World, Below w.heap.size w (w.alloc (.cells #[.int .u8 6, .int .u8 2, .int .u8 97, .int .u8 11, .int .u8 1] 5))) := fun w => (Below.refl _ _).alloc (Nat.le_refl _) _
  have hcv := conv_a6 w
  go_enter Try.func17, Try.ntmps17
  go_wp2_with fail
  refine (encodeOf _ a6 _ (bytes_a6m w) (by decide)).mono ?_
  rintro e w1 ⟨v1, r1, ts, rfl, hp, ho, hb, hr⟩
  clear hcv
  rw [a6_blk hp] at ho
  have H1 : Hid (Own w1 v1 b5 r1 ∧ Below w.heap.size w w1) := ⟨ho, (HA.out w).trans (hb.mono (HA.out w).size)⟩
  clear hp ho hb hr
  go_wp2_with fail
  refine (decodeOf _ b5 _ (own_b5 w1).bytes).mono ?_
  rintro e w2 ⟨hb2, hres⟩
  rcases hres with ⟨x, v2, r2, rfl, hd, ho2, _⟩ | ⟨_, hno⟩
  case inr => exact absurd a6_dec (hno a6)
  obtain rfl : x = a6 := hd.unique a6_dec
  have H2 : Hid (Own w2 v2 a6 r2 ∧ Below w1.heap.size w1 w2) := ⟨ho2, (HBb.out w1).trans (hb2.mono (HBb.out w1).size)⟩
  clear hd ho2 hb2
  go_wp2_with fail
  refine (sameYes _ _ b5 _ (((H1.out.1.later H2.out.2).later (HBb.out w2)).bytes) (own_b5 w2).bytes).mono ?_
  rintro e w3 ⟨rfl, nd, rfl⟩
  have H3 : Hid (Below w.heap.size w ((w2.alloc (.cells #[.int .u8 6, .int .u8 2, .int .u8 97, .int .u8 11, .int .u8 1] 5)).drewN nd) ∧ Own ((w2.alloc (.cells #[.int .u8 6, .int .u8 2, .int .u8 97, .int .u8 11, .int .u8 1] 5)).drewN nd) v2 a6 r2) := by
    have h := H1.out.2.trans (H2.out.2.mono H1.out.2.size)
    exact ⟨below_drewN (h.trans ((HBb.out w2).mono h.size)) nd, H2.out.1.later (below_drewN (HBb.out w2) nd)⟩
  obtain ⟨W, hW⟩ : ∃ W, (w2.alloc (.cells #[.int .u8 6, .int .u8 2, .int .u8 97, .int .u8 11, .int .u8 1] 5)).drewN nd = W := ⟨_, rfl⟩
  rw [hW] at H3 ⊢
  clear hW
  have hcv := conv_a6 W
  go_wp2_with fail
  refine (sameYes _ _ a6 _ ((H3.out.2.later (HA.out W)).bytes) (bytes_a6m W)).mono ?_
  rintro e w4 ⟨rfl, nd2, rfl⟩
  have H4 : Hid (Below w.heap.size w ((W.alloc (.cells #[.int .u8 97, .int .u8 97, .int .u8 97, .int .u8 97, .int .u8 97, .int .u8 97] 5 (6, 7))).drewN nd2)) := below_drewN (H3.out.1.trans ((HA.out W).mono H3.out.1.size)) nd2
  clear hcv
  go_wp2
  go_ret
  exact ⟨rfl, H4.out⟩
end Go.Proofs.Ytdjaogailfipjab
