import Derived.Test.YtklfmgkfcacfkaaGt
import Derived.BigQuiet
/-! The document's Number, length and best. -/
namespace Go.Proofs.Ytklfmgkfcacfkaa
open Go.RowKit Plain
set_option linter.unusedVariables false
set_option linter.unusedSimpArgs false

theorem src_c (w : World) (c : Nat) : Src Try.prog 1 22 (.slice (some ⟨w.heap.size, 0, none⟩) 1 1) [c].length (cellsOf [c]) (w.alloc (.cells #[.int .u8 (c : Int)] 5)) := src_one w c 22 5 Try.underlying22

set_option maxHeartbeats 1000000 in
theorem refNumber (v : Nat) (w : World) (hv : v < 9223372036854775808) :
    Calls Try.prog 45 #[.int .i64 v] w fun e w' => ∃ v' g, e = .returned v' ∧ Own w' v' (uv v) (some g) ∧ w.heap.size ≤ g ∧ Below w.heap.size w w' := by
  have h10 : (uv v).length ≤ 10 := uv_len10 (by omega)
  go_enter Try.func45, Try.ntmps45
  go_wp2
  go_loopw [0, 3] (fun s0 s3 wr => ∃ (u : Nat) (d : List Nat) (q : Option Nat) (a : Option Addr) (n c : Nat), s0 = .int .i64 u ∧ u < 9223372036854775808 ∧ s3 = .slice a n c ∧ Hid (uv v = d ++ uv u) ∧ Own wr (.slice a n c) d q ∧ (∀ g, q = some g → w.heap.size ≤ g) ∧ Below w.heap.size w wr) (fun s0 _ _ => (intOf s0).toNat)
  case atStart => exact ⟨v, [], none, none, 0, 0, rfl, hv, rfl, by unfold Hid; simp, Own.nil _, by simp, Below.refl _ _⟩
  case round =>
    obtain ⟨u, d, q, a, n, c, rfl, hu, rfl, HE, ho, hq, hb⟩ := hrel
    have HO : Hid (Own wr (.slice a n c) d q) := ho
    have HQ : Hid (∀ g, q = some g → w.heap.size ≤ g) := hq
    have HB : Hid (Below w.heap.size w wr) := hb
    have HD : Hid (d.length < 10) := uv_split_len HE.out h10
    clear ho hq hb
    by_cases hlt : u < 128
    · have hni : ¬ ((u : Int) ≥ 128) := by omega
      have hm : ((u : Int)) % 256 = (u : Int) := by omega
      have HU : Hid (uv v = d ++ [u]) := by unfold Hid; rw [HE.out, uv_lt hlt]
      go_wp2_with (at_builtin; refine wpList_append_row _ rfl _ _ 22 22 rfl Try.underlying22 _ _ d [u] q rfl rfl ?hOwn ?hByte ?hSrc ?hLen ?_)
      case hOwn => exact HO.out.later ((Below.refl _ _).alloc (Nat.le_refl _) _)
      case hByte => first | omega | (intro x hx; rw [List.mem_singleton] at hx; omega)
      case hSrc => exact src_c wr u
      case hLen => have := HD.out; simp; omega
      intro v' w3 r3 ho3 hg3 hr3 hn3
      obtain ⟨g3, rfl⟩ : ∃ g, r3 = some g := by
        cases r3 with
        | none => exact (hn3 rfl).elim
        | some g => exact ⟨g, rfl⟩
      have HO3 : Hid (Own w3 v' (uv v) (some g3)) := by unfold Hid; rw [HU.out]; exact ho3
      have HQ3 : Hid (w.heap.size ≤ g3) := by
        have := HB.out.size
        unfold Hid
        rcases hr3 with e | e
        · exact HQ.out g3 e.symm
        · simp at e; omega
      have HB3 : Hid (Below w.heap.size w w3) := (HB.out.alloc HB.out.size _).trans (grow_below hg3 (by have := HB.out.size; simp; omega) HQ.out)
      clear ho3 hg3 hr3 hn3
      go_wp2
      go_ret
      exact ⟨v', g3, rfl, HO3.out, HQ3.out, HB3.out⟩
    · have hge : ((u : Int) ≥ 128) := by omega
      have hr : ((u : Int)).tmod 128 = ((u % 128 : Nat) : Int) := by rw [Int.tmod_eq_emod_of_nonneg (by omega)]; omega
      have hq2 : ((u : Int)).tdiv 128 = ((u / 128 : Nat) : Int) := by rw [Int.tdiv_eq_ediv_of_nonneg (by omega)]; omega
      have hc : (((u % 128 : Nat) : Int) + 128) % 256 = ((u % 128 + 128 : Nat) : Int) := by omega
      have HU : Hid (uv v = (d ++ [u % 128 + 128]) ++ uv (u / 128)) := uv_split HE.out hlt
      have hd : u / 128 < u := by omega
      have hc2 : (u : Int) % 128 + 128 = ((u % 128 + 128 : Nat) : Int) := by omega
      have hq3 : (u : Int) / 128 = ((u / 128 : Nat) : Int) := by omega
      obtain ⟨m, hm⟩ : ∃ m, u % 128 + 128 = m := ⟨_, rfl⟩
      obtain ⟨y, hy⟩ : ∃ y, u / 128 = y := ⟨_, rfl⟩
      rw [hm] at hc HU hc2
      rw [hy] at hq2 HU hd hq3
      have hm2 : m < 256 := by omega
      clear hm
      go_wp2_with (at_builtin; refine wpList_append_row _ rfl _ _ 22 22 rfl Try.underlying22 _ _ d [m] q rfl rfl ?hOwn ?hByte ?hSrc ?hLen ?_)
      case hOwn => exact HO.out.later ((Below.refl _ _).alloc (Nat.le_refl _) _)
      case hByte => first | omega | (intro x hx; rw [List.mem_singleton] at hx; omega)
      case hSrc => exact src_c wr m
      case hLen => have := HD.out; simp; omega
      intro v' w3 r3 ho3 hg3 hr3 hn3
      obtain ⟨a3, c3, rfl⟩ := ho3.isSlice
      have HO3 : Hid (Own w3 (.slice a3 (d ++ [m]).length c3) (d ++ [m]) r3) := ho3
      generalize (d ++ [m]).length = n3 at HO3 ⊢
      have HQ3 : Hid (∀ g, r3 = some g → w.heap.size ≤ g) := fun g hg => by
        have := HB.out.size
        rcases hr3 with e | e
        · exact HQ.out g (e ▸ hg)
        · rw [e] at hg; simp at hg; omega
      have HB3 : Hid (Below w.heap.size w w3) := (HB.out.alloc HB.out.size _).trans (grow_below hg3 (by have := HB.out.size; simp; omega) HQ.out)
      clear ho3 hg3 hr3 hn3
      go_wp2
      go_roundw
      case rel => exact ⟨y, d ++ [m], r3, a3, n3, c3, by go_num, by omega, rfl, HU.out, HO3.out, HQ3.out, HB3.out⟩
      case measure => simp [intOf]; omega

set_option maxHeartbeats 1000000 in
theorem refLength (v : Value) (l : List Nat) (i d : Nat) (w : World) (h : BytesAt w v l) (hl : l.length ≤ 4096) (hi : i < l.length) (hd : 1 ≤ d) (hdi : d ≤ i) :
    Calls Try.prog 59 #[v, .int .i64 i, .int .i64 d] w fun e w' => ∃ n, e = .returned (.int .i64 ((n : Nat) : Int)) ∧ IsLen l i d (most l i) n ∧ ∃ m, w' = w.drewN m := by
  obtain ⟨a, cap, rfl, hlc, hcm, hby, hcells⟩ := h
  obtain ⟨b, off, rfl, hc⟩ := hcells (by rintro rfl; simp at hi)
  have HC : Hid (∀ j, j < l.length → w.cell? ⟨b, off + j, none⟩ = some (.int .u8 ((l.getD j 0 : Nat) : Int))) := hc
  clear hcells hc hby
  go_enter Try.func59, Try.ntmps59
  go_wp2
  go_loopw [7] (fun s7 w' => ∃ n m : Nat, w' = w.drewN m ∧ s7 = .int .i64 n ∧ n ≤ 258 ∧ i + n ≤ l.length ∧ Hid (∀ k, k < n → Eqv l i d k)) (fun s _ => 300 - (intOf s).toNat)
  case atStart => exact ⟨0, 0, rfl, rfl, by omega, by omega, fun k hk => by omega⟩
  case round =>
    obtain ⟨n, m, rfl, rfl, hn, hin, HE⟩ := hrel
    by_cases h1 : n < 258
    · by_cases h2 : i + n < l.length
      · have c1 := HC.out (i + n) h2
        have c2 := HC.out (i + n - d) (by omega)
        have HEQ : Hid (Eqv l i d n = (l.getD (i + n) 0 = l.getD (i + n - d) 0)) := rfl
        obtain ⟨p, hp⟩ : ∃ p, i + n = p := ⟨_, rfl⟩
        obtain ⟨q, hq⟩ : ∃ q, p - d = q := ⟨_, rfl⟩
        rw [hp, hq] at HEQ
        rw [hp, hq] at c2
        rw [hp] at c1 h2
        have e1 : (i : Int) + (n : Int) = (p : Int) := by omega
        have e2 : (p : Int) - (d : Int) = (q : Int) := by omega
        have hql : q < l.length := by omega
        have HPQ : Hid (i + n = p) := hp
        clear hp hq
        generalize l.getD p 0 = x at c1 HEQ
        generalize l.getD q 0 = y at c2 HEQ
        have h1' : decide ((n : Int) < 258) = true := by simp; omega
        have h2' : decide ((p : Int) < (l.length : Int)) = true := by simp; omega
        by_cases he : x = y
        · subst he
          have HE1 : Hid (∀ k, k < n + 1 → Eqv l i d k) := fun k hk => by
            by_cases e : k = n
            · subst e; rw [HEQ.out]
            · exact HE.out k (by omega)
          clear HEQ HE
          go_wp2
          go_quiet (fail)
          go_wp2
          go_roundw
          case rel => exact ⟨n + 1, _, rfl, by go_num, by omega, by have := HPQ.out; omega, HE1.out⟩
          case measure => simp [intOf]; omega
        · have he' : (((x : Nat) : Int) == ((y : Nat) : Int)) = false := by simp; omega
          have HL : Hid (IsLen l i d (most l i) n) := ⟨by unfold most; have := HPQ.out; omega, HE.out, .inr (by rw [HEQ.out]; exact he)⟩
          clear HEQ HE
          go_wp2
          go_quiet (fail)
          go_wp2
          go_ret
          exact ⟨n, rfl, HL.out, dn2 _ _ _⟩
      · have h1' : decide ((n : Int) < 258) = true := by simp; omega
        have h2' : decide ((i : Int) + (n : Int) < (l.length : Int)) = false := by simp; omega
        have HL : Hid (IsLen l i d (most l i) n) := ⟨by unfold most; omega, HE.out, .inl (by unfold most; omega)⟩
        go_wp2
        go_quiet (fail)
        go_wp2
        go_ret
        exact ⟨n, rfl, HL.out, dn2 _ _ _⟩
    · have h1' : decide ((n : Int) < 258) = false := by simp; omega
      have HL : Hid (IsLen l i d (most l i) n) := ⟨by unfold most; omega, HE.out, .inl (by unfold most; omega)⟩
      go_wp2
      go_quiet (fail)
      go_wp2
      go_ret
      exact ⟨n, rfl, HL.out, dn2 _ _ _⟩
end Go.Proofs.Ytklfmgkfcacfkaa
