import Derived.Test.YtgffncbmchimdaaSfT
import Derived.Test.YtgffncbmchimdaaSfV
/-! Read. -/
namespace Go.Proofs.Ytgffncbmchimdaa
open Go.RowKit Go.Maps Plain
set_option linter.unusedVariables false
set_option linter.unusedSimpArgs false

theorem min_eq (N A M m : Nat) (hA : A ≤ N) (hm : m = min M (N - A)) (ts : Array TypeId) (t : TypeId) (W : World) : (Builtin.min_ ts t #[.int .i64 (M : Int), .int .i64 ((N - A : Nat) : Int)]).run Try.prog W = .ok (.int .i64 (m : Int)) W := by
  rw [run_min_int2]
  have : (if ((N - A : Nat) : Int) < (M : Int) then ((N - A : Nat) : Int) else (M : Int)) = (m : Int) := by split <;> omega
  rw [this]

set_option maxHeartbeats 1000000 in
set_option maxRecDepth 1000000 in
theorem readOwn (d G g A M N vc m : Nat) (s : ByteArray) (W0 W1 : World) (X : List Nat) (Q : Ending → World → Prop)
    (HFD : Hid (Calls Try.prog 31 #[.pointer (some ⟨d, 0, none⟩), .string s] W0 fun e w' => e = .returned (.tuple #[.pointer (some ⟨G, 0, none⟩), .int .i64 0]) ∧ w' = W1))
    (g0 : W1.cell? ⟨G, 0, none⟩ = some (.slice (some ⟨g, 0, none⟩) N vc)) (q1 : N ≤ vc) (q2 : vc ≤ 2 ^ 63 - 1) (hA : A ≤ N) (hlt : A < vc) (hM : M ≤ 9223372036854775807) (hm : m ≤ N - A)
    (hmin : ∀ (ts : Array TypeId) (t : TypeId) (W : World), (Builtin.min_ ts t #[.int .i64 (M : Int), .int .i64 ((N - A : Nat) : Int)]).run Try.prog W = .ok (.int .i64 (m : Int)) W)
    (HCL : Hid (Calls Try.prog 37 #[.slice (some ⟨g, A, none⟩) m (vc - A)] W1 fun e w' => ∃ a n c, e = .returned (.slice a n c) ∧ Q (.returned (.tuple #[.slice a n c, .int .i64 0])) w')) :
    Calls Try.prog 23 #[.pointer (some ⟨d, 0, none⟩), .string s, .int .i64 (A : Int), .int .i64 (M : Int)] W0 Q := by
  obtain ⟨R, hR⟩ : ∃ R, N - A = R := ⟨_, rfl⟩
  rw [hR] at hmin hm
  have hNR : N = A + R := by omega
  subst hNR
  clear hR
  go_enter Try.func23, Try.ntmps23
  go_wp2_with fail
  refine HFD.out.mono ?_
  rintro e w2 ⟨rfl, rfl⟩
  go_wp2_with fail
  refine HCL.out.mono ?_
  rintro e w3 ⟨a3, n3, c3, rfl, hq⟩
  have HP : Hid (Q (.returned (.tuple #[.slice a3 n3 c3, .int .i64 0])) w3) := hq
  clear hq
  go_wp2
  exact HP.out

set_option maxHeartbeats 1000000 in
set_option maxRecDepth 1000000 in
theorem readEnd (d G A M : Nat) (va : Option Addr) (s : ByteArray) (W0 W1 : World) (Q : Ending → World → Prop)
    (HFD : Hid (Calls Try.prog 31 #[.pointer (some ⟨d, 0, none⟩), .string s] W0 fun e w' => e = .returned (.tuple #[.pointer (some ⟨G, 0, none⟩), .int .i64 0]) ∧ w' = W1))
    (hva : va = none ∨ ∃ g, va = some ⟨g, 0, none⟩) (h0 : va = none → A = 0) (g0 : W1.cell? ⟨G, 0, none⟩ = some (.slice va A A)) (q2 : A ≤ 2 ^ 63 - 1) (hM : M ≤ 9223372036854775807)
    (hmin : ∀ (ts : Array TypeId) (t : TypeId) (W : World), (Builtin.min_ ts t #[.int .i64 (M : Int), .int .i64 0]).run Try.prog W = .ok (.int .i64 0) W)
    (HCL : Hid (Calls Try.prog 37 #[.slice va 0 0] W1 fun e w' => ∃ a n c, e = .returned (.slice a n c) ∧ Q (.returned (.tuple #[.slice a n c, .int .i64 0])) w')) :
    Calls Try.prog 23 #[.pointer (some ⟨d, 0, none⟩), .string s, .int .i64 (A : Int), .int .i64 (M : Int)] W0 Q := by
  rcases hva with rfl | ⟨g, rfl⟩
  · obtain rfl := h0 rfl
    go_enter Try.func23, Try.ntmps23
    go_wp2_with fail
    refine HFD.out.mono ?_
    rintro e w2 ⟨rfl, rfl⟩
    go_wp2_with fail
    refine HCL.out.mono ?_
    rintro e w3 ⟨a3, n3, c3, rfl, hq⟩
    have HP : Hid (Q (.returned (.tuple #[.slice a3 n3 c3, .int .i64 0])) w3) := hq
    clear hq
    go_wp2
    exact HP.out
  · clear h0
    go_enter Try.func23, Try.ntmps23
    go_wp2_with fail
    refine HFD.out.mono ?_
    rintro e w2 ⟨rfl, rfl⟩
    go_wp2_with fail
    refine HCL.out.mono ?_
    rintro e w3 ⟨a3, n3, c3, rfl, hq⟩
    have HP : Hid (Q (.returned (.tuple #[.slice a3 n3 c3, .int .i64 0])) w3) := hq
    clear hq
    go_wp2
    exact HP.out

theorem readOk {S : Nat → Prop} {w w1 : World} {d n : Nat} {k : Dk} (h : St S w d k w1) (hk : k.Ok n) (s : ByteArray) (hs : s.size ≤ maxLen) (A M : Nat) (hM : M ≤ 9223372036854775807) (h0 : (fnd k.dead k.L s).2 = 0) (hA : A ≤ sizeK k s) :
    Calls Try.prog 23 #[.pointer (some ⟨d, 0, none⟩), .string s, .int .i64 (A : Int), .int .i64 (M : Int)] w1 (RdPost S d k w (rdB k s A M) w1) := by
  have HB1 : Below w1.heap.size w1 (w1.alloc (.cells #[.string s] 9)) := (Below.refl _ _).alloc (Nat.le_refl _) _
  have HS : St S w d k (w1.alloc (.cells #[.string s] 9)) := h.below HB1
  have HFD := findSt h s hs
  obtain ⟨G, hl, hfe⟩ := fnd_ok h0
  rw [hfe] at HFD
  have hG : k.live G := hk.refs _ (look_mem hl)
  obtain ⟨vs, rs, g0, hown⟩ := HS.fown hG
  have HX : rdB k s A M = ((k.file G).seen.drop A).take M := by unfold rdB; rw [hl]; rfl
  have hsz : sizeK k s = (k.file G).seen.length := by unfold sizeK; rw [hl]; rfl
  have hbd : (k.file G).seen.length ≤ 70368744177664 := by
    have h1 := (hk.fok G hG).1
    have h2 := h1.len (k.file G).chg.length
    rw [List.take_length, ← h1.eq] at h2
    exact h2
  rw [HX]
  rw [hsz] at hA
  obtain ⟨va, N, vc, rfl⟩ := isSliceO hown
  have hlen := own_len hown
  obtain ⟨q1, q2⟩ := own_cap hown
  rw [hlen] at hA hbd
  have hXl : (((k.file G).seen.drop A).take M).length ≤ 140737488355328 := by rw [List.length_take, List.length_drop]; omega
  have hcl : ∀ v, BytesAt (w1.alloc (.cells #[.string s] 9)) v (((k.file G).seen.drop A).take M) → Calls Try.prog 37 #[v] (w1.alloc (.cells #[.string s] 9)) fun e w' => ∃ a n c, e = .returned (.slice a n c) ∧ RdPost S d k w (((k.file G).seen.drop A).take M) w1 (.returned (.tuple #[.slice a n c, .int .i64 0])) w' := fun v hv => by
    refine (cloneOf v _ _ hv hXl).mono ?_
    rintro e w3 ⟨v3, r3, rfl, ho3, hb3, hr3⟩
    obtain ⟨a3, n3, c3, rfl⟩ := isSliceO ho3
    have := HB1.size
    exact ⟨a3, n3, c3, rfl, a3, n3, c3, r3, rfl, ho3, fun g e => by have := hr3 g e; omega, below_on HB1 hb3, HS.below hb3⟩
  have hva : va = none ∧ N = 0 ∧ vc = 0 ∨ ∃ g, va = some ⟨g, 0, none⟩ := by
    rcases hown.2 with ⟨e, _⟩ | ⟨g, _, _, e, _⟩
    · injection e with e1 e2 e3
      exact .inl ⟨e1, e2, e3⟩
    · injection e with e1 e2 e3
      exact .inr ⟨g, e1⟩
  have hz : ∀ (ts : Array TypeId) (t : TypeId) (W : World), (Builtin.min_ ts t #[.int .i64 (M : Int), .int .i64 0]).run Try.prog W = .ok (.int .i64 0) W := fun ts t W => by
    rw [run_min_int2]
    have : (if (0 : Int) < (M : Int) then (0 : Int) else (M : Int)) = 0 := by split <;> omega
    rw [this]
  rcases hva with ⟨rfl, rfl, rfl⟩ | ⟨g, rfl⟩
  · obtain rfl : A = 0 := by omega
    refine readEnd d G 0 M none s w1 _ _ HFD (.inl rfl) (fun _ => rfl) g0 (by omega) hM hz (hcl _ ?_)
    have : (k.file G).seen = [] := List.length_eq_zero_iff.mp hlen
    rw [this]
    simp
    exact BytesAt.nil _
  · by_cases hlt : A < vc
    · exact readOwn d G g A M N vc (min M (N - A)) s w1 _ [] _ HFD g0 q1 q2 hA hlt hM (Nat.min_le_right _ _) (min_eq N A M _ hA rfl) (hcl _ (own_part hown hA _ rfl))
    · obtain rfl : vc = A := by omega
      obtain rfl : N = vc := by omega
      exact readEnd d G N M (some ⟨g, 0, none⟩) s w1 _ _ HFD (.inr ⟨g, rfl⟩) (by simp) g0 q2 hM hz (hcl _ (own_end hown (Nat.le_refl _)))
end Go.Proofs.Ytgffncbmchimdaa
