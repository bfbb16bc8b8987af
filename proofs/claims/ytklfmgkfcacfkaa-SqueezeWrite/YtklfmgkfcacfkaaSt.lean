import Derived.Test.YtklfmgkfcacfkaaDd
namespace Go.Proofs.Ytklfmgkfcacfkaa
open Go.RowKit Plain
set_option linter.unusedVariables false
set_option linter.unusedSimpArgs false

set_option maxHeartbeats 2000000 in
set_option maxRecDepth 1000000 in
theorem sameTok (va vb : Value) (gs hs : List Tg) (w : World) (ha : TRd w va gs) (hb : TRd w vb hs) (hlen : gs.length = hs.length)
    (hsame : ∀ k (h1 : k < gs.length) (h2 : k < hs.length), gs[k].l = hs[k].l ∧ gs[k].d = hs[k].d ∧ gs[k].n = hs[k].n) :
    Calls Try.prog 23 #[va, vb] w fun e w' => e = .returned (.bool true) ∧ ∃ n, w' = w.drewN n := by
  obtain ⟨aa, ca, rfl, ha1, ha2, ha3, ha4⟩ := ha
  obtain ⟨ab, cb, rfl, hb1, hb2, hb3, hb4⟩ := hb
  unfold maxLen at ha2 hb2
  have HA : Hid ((∀ t ∈ gs, t.ok w) ∧ (gs ≠ [] → ∃ b off, aa = some ⟨b, off, none⟩ ∧ ∀ k (hk : k < gs.length), w.cell? ⟨b, off + k * 3, none⟩ = some gs[k].v ∧ w.cell? ⟨b, off + k * 3 + 1, none⟩ = some (.int .i64 gs[k].d) ∧ w.cell? ⟨b, off + k * 3 + 2, none⟩ = some (.int .i64 gs[k].n))) := ⟨ha3, ha4⟩
  have HB : Hid ((∀ t ∈ hs, t.ok w) ∧ (hs ≠ [] → ∃ b off, ab = some ⟨b, off, none⟩ ∧ ∀ k (hk : k < hs.length), w.cell? ⟨b, off + k * 3, none⟩ = some hs[k].v ∧ w.cell? ⟨b, off + k * 3 + 1, none⟩ = some (.int .i64 hs[k].d) ∧ w.cell? ⟨b, off + k * 3 + 2, none⟩ = some (.int .i64 hs[k].n))) := ⟨hb3, hb4⟩
  have HS : Hid (∀ k (h1 : k < gs.length) (h2 : k < hs.length), gs[k].l = hs[k].l ∧ gs[k].d = hs[k].d ∧ gs[k].n = hs[k].n) := hsame
  have HLN : Hid (gs.length = hs.length) := hlen
  have hne : ((gs.length : Int) != (hs.length : Int)) = false := by simp; omega
  have hle1 : gs.length ≤ hs.length := by omega
  clear ha3 ha4 hb3 hb4 hsame hlen
  go_enter Try.func23, Try.ntmps23
  go_wp2
  go_loopg [5] gs.length (fun gk s5 wx => ∃ k q : Nat, k + gk = gs.length ∧ s5 = .int .i64 k ∧ wx = w.drewN q)
  case atStart => exact ⟨0, 0, by omega, rfl, rfl⟩
  case round =>
    obtain ⟨k, q, hkg, rfl, rfl⟩ := hrel
    cases gk with
    | zero =>
      have hkk : k = gs.length := by omega
      go_wp2
      go_ret
      exact ⟨rfl, _, rfl⟩
    | succ gk1 =>
      have hk : k < gs.length := by omega
      have hk2 : k < hs.length := by omega
      obtain ⟨b1, o1, rfl, hc1⟩ := HA.out.2 (by rintro rfl; simp at hk)
      obtain ⟨b2, o2, rfl, hc2⟩ := HB.out.2 (by rintro rfl; simp at hk2)
      obtain ⟨p0, p1, p2⟩ := hc1 k hk
      obtain ⟨q0, q1, q2⟩ := hc2 k hk2
      obtain ⟨s1, s2, s3⟩ := HS.out k hk hk2
      have ok1 := HA.out.1 gs[k] (List.getElem_mem hk)
      have ok2 := HB.out.1 hs[k] (List.getElem_mem hk2)
      generalize gs[k] = t1 at *
      generalize hs[k] = t2 at *
      obtain ⟨v1, l1, d1, n1⟩ := t1
      obtain ⟨v2, l2, d2, n2⟩ := t2
      simp only at s1 s2 s3 p0 p1 p2 q0 q1 q2
      subst s1 s2 s3
      have hB1 : BytesAt w v1 l1 := ok1.1
      have hB2 : BytesAt w v2 l1 := ok2.1
      obtain ⟨hd1, hd2, hn1, hn2⟩ := ok1.2.2
      have hB1' := hB1
      have hB2' := hB2
      obtain ⟨x1, c1, rfl, -⟩ := hB1'
      obtain ⟨x2, c2, rfl, -⟩ := hB2'
      simp only at hd1 hd2 hn1 hn2
      have HSm : Hid (∀ n, Calls Try.prog 10 #[.slice x1 l1.length c1, .slice x2 l1.length c2] ((w.drewN q).drewN n) fun e w'' => e = .returned (.bool true) ∧ ∃ m, w'' = (w.drewN q).drewN m) := fun n => by
        refine (sameBytes _ _ l1 l1 ((w.drewN q).drewN n) ((hB1.drewN q).drewN n) ((hB2.drewN q).drewN n)).mono ?_
        rintro e w'' ⟨rfl, m, rfl⟩
        exact ⟨retB1 (by simp), _, World.drewN_drewN _ _ _⟩
      have HSm2 : Hid (∀ n, Calls Try.prog 10 #[.slice x1 l1.length c1, .slice x2 l1.length c2] (w.drewN (q + n)) fun e w'' => e = .returned (.bool true) ∧ ∃ m, w'' = w.drewN (q + m)) := fun n => by
        refine (sameBytes _ _ l1 l1 (w.drewN (q + n)) (hB1.drewN _) (hB2.drewN _)).mono ?_
        rintro e w'' ⟨rfl, m, rfl⟩
        exact ⟨retB1 (by simp), n + m, by rw [World.drewN_drewN, Nat.add_assoc]⟩
      have hdd : ((d1 : Int) != d1) = false := by simp
      have hnn : ((n1 : Int) != n1) = false := by simp
      clear hc1 hc2 ok1 ok2 hB1 hB2
      go_wp2
      go_quiet ((go_at_call 10; first | exact HSm.out _ | exact HSm2.out _))
      go_wp2
      go_roundg gk1
      case measure => omega
      case rel => first | exact ⟨k + 1, _, by omega, by go_num, rfl⟩ | exact ⟨k + 1, _, by omega, by go_num, World.drewN_drewN _ _ _⟩
end Go.Proofs.Ytklfmgkfcacfkaa
