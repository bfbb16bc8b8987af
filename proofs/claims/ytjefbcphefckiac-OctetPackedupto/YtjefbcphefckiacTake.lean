import Derived.Test.YtjefbcphefckiacRe
namespace Go.Proofs.Ytjefbcphefckiac
open Go.RowKit Plain
set_option linter.unusedVariables false

theorem getD_sub (l : List Nat) (p n j : Nat) (h : j < n) : ((l.drop p).take n).getD j 0 = l.getD (p + j) 0 := by
  rw [getD_take _ n j h]
  simp [List.getD_eq_getElem?_getD, List.getElem?_drop]

theorem BytesAt.sub {w : World} {g len cap : Nat} {l : List Nat} (h : BytesAt w (.slice (some ⟨g, 0, none⟩) len cap) l) (p n cap' : Nat) (hpn : p + n ≤ l.length) (hc : n ≤ cap') (hc2 : cap' ≤ cap) : BytesAt w (.slice (some ⟨g, p, none⟩) n cap') ((l.drop p).take n) := by
  obtain ⟨a, c, e, h1, h2, h3, h4⟩ := h
  simp only [Value.slice.injEq] at e
  obtain ⟨rfl, rfl, rfl⟩ := e
  have hl : ((l.drop p).take n).length = n := by simp; omega
  refine ⟨some ⟨g, p, none⟩, cap', by rw [hl], by omega, by omega, fun c hc => h3 c (List.mem_of_mem_drop (List.mem_of_mem_take hc)), fun hne => ⟨g, p, rfl, fun j hj => ?_⟩⟩
  rw [hl] at hj
  obtain ⟨b, off, e, h5⟩ := h4 (by rintro rfl; simp at hne)
  simp at e
  obtain ⟨rfl, rfl⟩ := e
  have := h5 (p + j) (by omega)
  rw [Nat.zero_add] at this
  rw [this, getD_sub l p n j hj]

theorem BytesAt.empty (w : World) (a : Option Addr) (cap : Nat) (h : cap ≤ maxLen) : BytesAt w (.slice a 0 cap) [] := ⟨a, cap, rfl, by simp, h, by simp, by simp⟩

set_option maxHeartbeats 400000 in
theorem takeOk (w : World) (b : Nat) (dv : Value) (l : List Nat) (p : Nat) (e q : Int) (r : Option Nat) (n : Nat) (h : RAt w b dv l p e q r) (hn : n ≤ l.length - p) :
    Calls Try.prog 52 #[.pointer (some ⟨b, 0, none⟩), .int .i64 n] w fun x w' => ∃ v, x = .returned v ∧ BytesAt w' v ((l.drop p).take n) ∧ RAt w' b dv l (p + n) e q r ∧ w.grownBy w' (some b) := by
  have HR : Hid (RAt w b dv l p e q r) := h
  have hp := h.pl
  have hl := h.ll
  have hblt := h.lt
  cases r with
  | none =>
    obtain ⟨hby, hown⟩ := h.ow
    rcases hown with ⟨rfl, rfl, _⟩ | ⟨g, cap, e1, _⟩
    · simp at hn hp
      subst hn hp
      clear h
      go_enter Try.func52, Try.ntmps52
      go_wp2_with fail
      refine (pRest w b _ [] 0 e q none HR.out).mono ?_
      rintro x w1 ⟨rfl, n1, rfl⟩
      have HR1 : Hid (RAt (w.drewN n1) b (.slice none 0 0) [] 0 e q none) := HR.out.drewN n1
      have c0 := HR.out.c0
      have c1 := HR.out.c1
      have f1 := HR.out.f1
      go_wp2
      go_quiet (fail)
      go_wp2
      go_ret
      refine ⟨_, rfl, BytesAt.empty _ _ _ (by decide), by simpa using (HR.out.drewN _).move 0 (by simp), grow_trans (below_grow (below_drewN (Below.refl _ _) _) _) (grow_set _ b 1 _) (.inl rfl)⟩
    · simp at e1
  | some g =>
    obtain ⟨cap, rfl, hc1, hc2⟩ := h.ow.shape
    unfold maxLen at hc2
    clear h
    by_cases hpc : p < cap
    · go_enter Try.func52, Try.ntmps52
      go_wp2_with fail
      refine (pRest w b _ l p e q (some g) HR.out).mono ?_
      rintro x w1 ⟨rfl, n1, rfl⟩
      have c0 := HR.out.c0
      have c1 := HR.out.c1
      have f1 := HR.out.f1
      go_wp2
      go_quiet (fail)
      go_wp2
      all_goals go_ret
      refine ⟨_, rfl, ?_, by simpa using (HR.out.drewN _).move (p + n) (by omega), grow_trans (below_grow (below_drewN (Below.refl _ _) _) _) (grow_set _ b 1 _) (.inl rfl)⟩
      show BytesAt _ (.slice (some ⟨g, p, none⟩) (p + n - p) (cap - p)) _
      rw [show p + n - p = n by omega]
      exact (by simpa using BytesAt.sub ((HR.out.drewN _).move (p + n) (by omega)).ow.bytes p n (cap - p) (by omega) (by omega) (by omega))
    · obtain rfl : p = cap := by omega
      obtain rfl : n = 0 := by omega
      go_enter Try.func52, Try.ntmps52
      go_wp2_with fail
      refine (pRest w b _ l p e q (some g) HR.out).mono ?_
      rintro x w1 ⟨rfl, n1, rfl⟩
      have c0 := HR.out.c0
      have c1 := HR.out.c1
      have f1 := HR.out.f1
      go_wp2
      go_quiet (fail)
      go_wp2
      all_goals go_ret
      all_goals refine ⟨_, rfl, by simpa using BytesAt.empty _ _ 0 (by decide), by simpa using (HR.out.drewN _).move p (by omega), grow_trans (below_grow (below_drewN (Below.refl _ _) _) _) (grow_set _ b 1 _) (.inl rfl)⟩

theorem takeNo (w : World) (b : Nat) (dv : Value) (l : List Nat) (p : Nat) (q : Int) (r : Option Nat) (n : Nat) (h : RAt w b dv l p 0 q r) (hn : l.length - p < n) (hn2 : n ≤ 9223372036854775807) :
    Calls Try.prog 52 #[.pointer (some ⟨b, 0, none⟩), .int .i64 n] w fun x w' => x = .returned (.slice none 0 0) ∧ RAt w' b (.slice none 0 0) [] 0 10 p none ∧ w.grownBy w' (some b) := by
  have HR : Hid (RAt w b dv l p 0 q r) := h
  have hblt := h.lt
  clear h
  go_enter Try.func52, Try.ntmps52
  go_wp2_with fail
  refine (pRest w b _ l p 0 q r HR.out).mono ?_
  rintro x w1 ⟨rfl, n1, rfl⟩
  go_wp2_with fail
  refine (pFail1 _ b _ l p q r 10 (HR.out.drewN n1) (by decide)).mono ?_
  rintro x w2 ⟨rfl, h2, hg2⟩
  have H2 : Hid (RAt w2 b (.slice none 0 0) [] 0 10 p none) := h2
  have HG : Hid (w.grownBy w2 (some b)) := grow_trans (below_grow (below_drewN (Below.refl _ _) n1) _) hg2 (.inl rfl)
  clear h2 hg2
  go_wp2
  go_ret
  exact ⟨rfl, H2.out, HG.out⟩

theorem takeDead (w : World) (b : Nat) (dv : Value) (l : List Nat) (p : Nat) (e q : Int) (r : Option Nat) (n : Nat) (h : RAt w b dv l p e q r) (he : e ≠ 0) (hn : l.length - p < n) (hn2 : n ≤ 9223372036854775807) :
    Calls Try.prog 52 #[.pointer (some ⟨b, 0, none⟩), .int .i64 n] w fun x w' => x = .returned (.slice none 0 0) ∧ ∃ k, w' = w.drewN k := by
  have HR : Hid (RAt w b dv l p e q r) := h
  have hblt := h.lt
  clear h
  go_enter Try.func52, Try.ntmps52
  go_wp2_with fail
  refine (pRest w b _ l p e q r HR.out).mono ?_
  rintro x w1 ⟨rfl, n1, rfl⟩
  go_wp2_with fail
  refine (pFail0 _ b _ l p e q r 10 (HR.out.drewN n1) (.inr he)).mono ?_
  rintro x w2 ⟨rfl, rfl⟩
  go_wp2
  go_ret
  exact ⟨rfl, _, rfl⟩
end Go.Proofs.Ytjefbcphefckiac
