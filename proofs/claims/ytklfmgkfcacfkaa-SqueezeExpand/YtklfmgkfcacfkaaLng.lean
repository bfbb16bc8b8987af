import Derived.Test.YtklfmgkfcacfkaaTab
namespace Go.Proofs.Ytklfmgkfcacfkaa
open Go.RowKit Plain
set_option linter.unusedVariables false

theorem ret2 {a a' b b' : Int} (h1 : a = a') (h2 : b = b') : Ending.returned (.tuple #[.int .i64 a, .int .i64 b]) = .returned (.tuple #[.int .i64 a', .int .i64 b']) := by rw [h1, h2]

theorem wpList_min {ops : Array Oper} {rest : List Oper} {o : Oper} {a : Act} {Q : Exit → Act → World → Prop} {w : World} (hgd : o.guard = none) (s x : Operand) (t tx : TypeId) (y m : Int)
    (ho : o.op = .call { callee := .builtin .min, args := #[s, x], argTypes := #[t, tx] }) (hs : a.eval s = .int .i64 258) (hx : a.eval x = .int .i64 y) (hm : (if y < 258 then y else 258) = m)
    (h : wpList Try.prog ops Q rest (a.put o.dst (.int .i64 m)) w) : wpList Try.prog ops Q (o :: rest) a w :=
  wpList_plain hgd fun _ hK => by
    have hr := run_min_int2 (P := Try.prog) (w := w) #[t, tx] o.type .i64 .i64 258 y
    rw [hm] at hr
    unfold Oper.wp execOp
    simp only [ho, resolve, invoke, builtin, Sem.run_bind, Sem.run_pure, Result.andThen_ok, List.map_toArray, List.map_cons, List.map_nil, hs, hx, hr]
    exact hK _ _ h

theorem wpList_max {ops : Array Oper} {rest : List Oper} {o : Oper} {a : Act} {Q : Exit → Act → World → Prop} {w : World} (hgd : o.guard = none) (s x : Operand) (t tx : TypeId) (y m : Int)
    (ho : o.op = .call { callee := .builtin .max, args := #[s, x], argTypes := #[t, tx] }) (hs : a.eval s = .int .i64 5) (hx : a.eval x = .int .i64 y) (hm : (if y > 5 then y else 5) = m)
    (h : wpList Try.prog ops Q rest (a.put o.dst (.int .i64 m)) w) : wpList Try.prog ops Q (o :: rest) a w :=
  wpList_plain hgd fun _ hK => by
    have hr := run_max_int2 (P := Try.prog) (w := w) #[t, tx] o.type .i64 .i64 5 y
    rw [hm] at hr
    unfold Oper.wp execOp
    simp only [ho, resolve, invoke, builtin, Sem.run_bind, Sem.run_pure, Result.andThen_ok, List.map_toArray, List.map_cons, List.map_nil, hs, hx, hr]
    exact hK _ _ h

set_option maxHeartbeats 1000000 in
set_option maxRecDepth 1000000 in
theorem longestAt (v : Value) (l : List Nat) (i g : Nat) (last ahead : Nat → Nat) (w : World) (h : BytesAt w v l) (hl : l.length ≤ 4096) (hi : i < l.length) (ht : TabAt w g last ahead) (hT : Tab l i last ahead) :
    Calls Try.prog 33 #[.pointer (some ⟨g, 0, none⟩), v, .int .i64 i] w fun e w' => ∃ d n q : Nat, Best l i d n ∧ e = .returned (.tuple #[.int .i64 d, .int .i64 n]) ∧ w' = w.drewN q := by
  have HB : Hid (BytesAt w v l) := h
  obtain ⟨a, cap, rfl, hlc, hcm, hby, hcells⟩ := h
  unfold maxLen at hcm
  obtain ⟨b, off, rfl, hc⟩ := hcells (by rintro rfl; simp at hi)
  clear hcells hby
  have HT : Hid (TabAt w g last ahead) := ht
  have HTT : Hid (Tab l i last ahead) := hT
  have HCE : Hid (∀ j, j < l.length → w.cell? ⟨b, off + j, none⟩ = some (.int .u8 ((l.getD j 0 : Nat) : Int))) := hc
  clear ht hT hc
  have hmost : Hid (most l i = min 258 (l.length - i)) := rfl
  by_cases h5 : i + 5 ≤ l.length
  · obtain ⟨m, hm⟩ : ∃ m, most l i = m := ⟨_, rfl⟩
    have HM : Hid (most l i = m) := hm
    have hmm : m = min 258 (l.length - i) := by rw [← hm]; rfl
    have hm258 : m ≤ 258 ∧ m ≤ l.length - i ∧ 5 ≤ m := by omega
    obtain ⟨hm1, hm2, hm3⟩ := hm258
    have HMN : Hid ((if (l.length : Int) - (i : Int) < 258 then (l.length : Int) - (i : Int) else 258) = (m : Int)) := by unfold Hid; split <;> omega
    have HMM : Hid (m = min 258 (l.length - i)) := hmm
    have hlt := hat_lt l i
    have h1 := HT.out.1 (hat l i) hlt
    have HP : Hid (Prev l i (hat l i) (last (hat l i))) := HTT.out.1 _ hlt
    have HC : Hid (∀ n, Calls Try.prog 50 #[.slice (some ⟨b, off + i, none⟩) (l.length - i) (cap - i)] (w.drewN n) fun e w' => e = .returned (.int .u64 (hat l i)) ∧ w' = w.drewN n) := fun n => numberOf _ _ (w.drewN n) (HB.out.dropAt i (by omega)) (by rw [List.length_drop]; omega)
    obtain ⟨H, hH⟩ : ∃ H, hat l i = H := ⟨_, rfl⟩
    obtain ⟨A, hA⟩ : ∃ A, last H = A := ⟨_, rfl⟩
    rw [hH] at h1 hlt HC HP
    rw [hA] at h1 HP
    have HHA : Hid (hat l i = H ∧ last H = A) := ⟨hH, hA⟩
    clear hH hA hm hmm
    have hile : i ≤ l.length := by omega
    have hcne : ¬ cap = i := by omega
    go_enter Try.func33, Try.ntmps33
    go_wp2
    go_step3
    go_wp2_with (refine wpList_min (by with_reducible rfl) _ _ 3 3 _ _ (by with_reducible rfl) (by rfl) (by rfl) HMN.out ?_)
    go_step3
    go_wp2
    go_quiet ((go_at_call 50; exact Calls.quiet_of_same (HC.out _)))
    go_wp2
    clear h1
    go_loopg [9, 10, 11] A (fun gk s9 s10 s11 wx => ∃ u d n q : Nat, s9 = .int .i64 d ∧ s10 = .int .i64 n ∧ s11 = .int .u16 gk ∧ wx = w.drewN q ∧ u ≤ i ∧ d ≤ i ∧ n < m ∧ gk ≤ u ∧ Hid (Prev l u H gk ∧ Look l i u d n))
    case atStart => exact ⟨i, 0, 0, nq, rfl, rfl, rfl, rfl, Nat.le_refl _, Nat.zero_le _, by omega, HP.out.le, HP.out, Look.start l i⟩
    case round =>
      obtain ⟨u, d, n, q, rfl, rfl, rfl, rfl, hu, hdi, hnm, hgu, HPL⟩ := hrel
      clear nq HP
      cases gk with
      | zero =>
        have HBest : Hid (Best l i d n) := by
          have hp := HPL.out.1
          rw [← HHA.out.1] at hp
          exact (HPL.out.2.down (Nat.zero_le _) fun q' n' _ b c _ e => .inl (hp.none h5 hu q' n' b c e)).done hi
        go_wp2
        try rw [Exit.noGoto_ret]
        go_ret2
        exact ⟨d, n, _, HBest.out, ret2 rfl rfl, rfl⟩
      | succ p =>
        obtain ⟨f, hf⟩ : ∃ f, i = p + f := ⟨i - p, by omega⟩
        have hfar : (i : Int) + 1 - ((p : Int) + 1) = (f : Int) := by omega
        have hfar2 : (i : Int) - (p : Int) = (f : Int) := by omega
        have hip : i - p = f := by omega
        have HIP : Hid (i - p = f) := hip
        have hf1 : 1 ≤ f := by omega
        have hfi : f ≤ i := by omega
        have HF : Hid (i = p + f) := hf
        clear hf hip
        by_cases hwin : 2048 < f
        · have HBest : Hid (Best l i d n) := by
            have hp := HPL.out.1
            rw [← HHA.out.1] at hp
            refine (HPL.out.2.down (Nat.zero_le _) fun q' n' _ b c x e => .inl ?_).done hi
            have := HIP.out
            exact hp.between h5 hu q' n' (by omega) b c x e
          go_wp2
          try rw [Exit.noGoto_ret]
          go_ret2
          exact ⟨d, n, _, HBest.out, ret2 rfl rfl, rfl⟩
        · have HBetw : Hid (∀ q' n', p < q' → q' < u → q' < i → i - q' ≤ 2048 → IsLen l i (i - q') (most l i) n' → n' < 5) := by
            have hp := HPL.out.1
            rw [← HHA.out.1] at hp
            exact hp.between h5 hu
          have hp5 : p + 5 ≤ l.length := by have := HF.out; omega
          have HNext : Hid (Prev l p H (ahead p)) := by
            have hf := HF.out
            have e : hat l p = H := by
              rcases HPL.out.1 with ⟨h, _⟩ | ⟨q2, h0, _, _, h3, _⟩
              · omega
              · obtain rfl : p = q2 := by omega
                exact h3
            have := HTT.out.2 p (by omega) hp5
            rwa [e] at this
          have hpcell := HT.out.2.1 p (by omega)
          obtain ⟨M, hM⟩ : ∃ M, max 5 (n + 1) = M := ⟨_, rfl⟩
          have HMX : Hid ((if (n : Int) + 1 > 5 then (n : Int) + 1 else 5) = (M : Int)) := by unfold Hid; split <;> omega
          have hM5 : 5 ≤ M ∧ n + 1 ≤ M ∧ M ≤ m := by omega
          obtain ⟨hM1, hM2, hM3⟩ := hM5
          have HM2 : Hid (max 5 (n + 1) = M) := hM
          have hfar3 : f ≤ 2048 := by omega
          obtain ⟨P2, hP2⟩ : ∃ P2, ahead p = P2 := ⟨_, rfl⟩
          rw [hP2] at hpcell HNext
          have hP2p : P2 ≤ p := HNext.out.le
          clear hM hP2
          go_wp2_with (refine wpList_max (by with_reducible rfl) _ _ 3 3 _ _ (by with_reducible rfl) (by rfl) (by rfl) HMX.out ?_)
          go_loopg [49] M (fun g2 s49 wx => ∃ k q : Nat, k + g2 = M ∧ s49 = .int .i64 k ∧ wx = w.drewN q ∧ Hid (∀ j, j < k → Eqv l i f j))
          case atStart => exact ⟨0, q, by omega, rfl, rfl, fun j hj => by omega⟩
          case round =>
            obtain ⟨k, q2, hkM, rfl, rfl, HK⟩ := hrel
            cases gk with
            | zero =>
              have hkk : k = M := by omega
              subst hkk
              have HR : Hid (∀ q, Calls Try.prog 51 #[.slice (some ⟨b, off, none⟩) (i + m) cap, .int .i64 i, .int .i64 f] (w.drewN q) fun e w' => ∃ n2 q', IsLen l i f m n2 ∧ e = .returned (.int .i64 n2) ∧ w' = w.drewN q') := fun q => by
                have hb := (HB.out.drewN q).take (i + m) (by omega)
                have hlen : (l.take (i + m)).length = i + m := by rw [List.length_take]; omega
                refine (repeated _ _ i f _ hb (by omega) hf1 hfi).mono ?_
                rintro e w' ⟨n2, q', h1, rfl, rfl⟩
                refine ⟨n2, _, isLen_take hfi ?_, rfl, World.drewN_drewN _ _ _⟩
                rwa [hlen, show i + m - i = m by omega] at h1
              go_wp2_with fail
              refine (HR.out _).mono ?_
              rintro e w' ⟨n2, q3, hl2, rfl, rfl⟩
              have hn2 : k ≤ n2 := hl2.ge hM3 HK.out
              have hn2m : n2 ≤ m := hl2.1
              have HLook : Hid (Look l i p f n2) := by
                have := HPL.out.2.more (q := p) (n' := n2) hu (by omega) (by rw [HIP.out]; exact hfar3) HBetw.out (by omega) (by omega) (by rw [HIP.out, HM.out]; exact hl2)
                rwa [HIP.out] at this
              clear hl2
              by_cases hnm2 : n2 = m
              · subst hnm2
                have HBest : Hid (Best l i f n2) := by
                  have h := HLook.out
                  rw [← HM.out] at h
                  have := (h.whole (by rw [HM.out]; exact hm3)).done hi
                  rwa [HM.out] at this
                go_wp2
                try rw [Exit.noGoto_ret]
                go_ret2
                exact ⟨f, n2, _, HBest.out, ret2 rfl rfl, rfl⟩
              · have hne : ((n2 : Int) == (m : Int)) = false := by simp; omega
                have hn2lt : n2 < m := by omega
                clear hnm2
                go_wp2
                go_roundg P2
                case measure => omega
                case rel => exact ⟨p, f, n2, _, rfl, rfl, rfl, rfl, by omega, hfi, hn2lt, hP2p, HNext.out, HLook.out⟩
            | succ g2 =>
              have hkM2 : k < M := by omega
              have hcell := HCE.out (i + k) (by omega)
              have hcell' := HCE.out (i + k - f) (by omega)
              obtain ⟨x, hx⟩ : ∃ x, l.getD (i + k) 0 = x := ⟨_, rfl⟩
              obtain ⟨y, hy⟩ : ∃ y, l.getD (i + k - f) 0 = y := ⟨_, rfl⟩
              rw [hx] at hcell
              rw [hy] at hcell'
              have HE2 : Hid (Eqv l i f k ↔ x = y) := by unfold Hid Eqv; rw [hx, hy]
              have hn1 : ((i : Int) + (k : Int)).toNat = i + k := by omega
              have hn2 : ((i : Int) + (k : Int) - (f : Int)).toNat = i + k - f := by omega
              clear hx hy
              by_cases hxy : x = y
              · have h2 : ((x : Int) != (y : Int)) = false := by simp; omega
                have HS : Hid (∀ j, j < k + 1 → Eqv l i f j) := fun j hj => by
                  by_cases z : j = k
                  · subst z; exact HE2.out.mpr hxy
                  · exact HK.out j (by omega)
                clear HK HE2 hxy
                go_wp2
                go_quiet (fail)
                go_wp2
                go_roundg g2
                case measure => omega
                case rel => exact ⟨k + 1, _, by omega, by go_num, rfl, HS.out⟩
              · have h2 : ((x : Int) != (y : Int)) = true := by simp; omega
                have HLook : Hid (Look l i p d n) := by
                  refine HPL.out.2.down (by omega) fun q' n' a b c z e => ?_
                  by_cases y : q' = p
                  · subst y
                    rw [HIP.out] at e
                    have := e.le (j := k) fun h => hxy (HE2.out.mp h)
                    have := HM2.out
                    omega
                  · exact .inl (HBetw.out q' n' (by omega) b c z e)
                clear HK HE2 hxy
                go_wp2
                go_quiet (fail)
                go_wp2
                go_roundg P2
                case measure => omega
                case rel => exact ⟨p, d, n, _, rfl, rfl, rfl, rfl, by omega, hdi, hnm, hP2p, HNext.out, HLook.out⟩
  · have HS : Hid (most l i < 5) := by unfold Hid; rw [hmost.out]; omega
    have hx : (l.length : Int) - (i : Int) < 258 := by omega
    have hx5 : (l.length : Int) - (i : Int) < 5 := by omega
    go_enter Try.func33, Try.ntmps33
    go_wp2
    go_step3
    go_wp2
    try rw [Exit.noGoto_ret]
    go_ret2
    refine ⟨0, 0, 0, .inl ⟨rfl, rfl, fun d' n' _ _ _ e => Nat.lt_of_le_of_lt e.1 HS.out⟩, ret2 rfl rfl, rfl⟩
end Go.Proofs.Ytklfmgkfcacfkaa
