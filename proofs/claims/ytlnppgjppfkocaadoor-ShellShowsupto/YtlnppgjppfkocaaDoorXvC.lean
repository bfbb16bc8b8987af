import Derived.Test.YtlnppgjppfkocaaDoorXvB
import Derived.Test.YtlnppgjppfkocaaDoorXtS
import Derived.Test.YtlnppgjppfkocaaDoorXtE
import Derived.Test.YtlnppgjppfkocaaDoorRgd
import Derived.BigQuiet
/-! ShellShows's walk. -/
namespace Go.Proofs.YtlnppgjppfkocaaDoor.Xs
open Go.RowKit Plain
set_option linter.unusedVariables false
set_option linter.unusedSimpArgs false

theorem mkV {p : Prop} (h : p) : Hid p := h
theorem src_sw (W : World) (x : Sw) : Src Tryd.prog 7 23 (.slice (some ⟨W.heap.size, 0, none⟩) 1 1) [x].length (swcells [x]) (W.alloc (.cells #[.int .i64 x.k, .int .i64 x.o, .int .i64 x.t, .int .i64 x.p, .int .i64 x.q, .string x.key, .string x.val] 28)) :=
  Src.ofSlice _ Tryd.underlying23 _ 1 1 _ (by rfl) (fun j u hj => by
    rw [WideShapes.add_plain, World.cell?_alloc_at _ _ _ _ rfl, Nat.zero_add, ← hj]
    simp [swcells, Sw.cells]) (by intro u hu; simp [swcells, Sw.cells] at hu; rcases hu with rfl | rfl | rfl | rfl | rfl | rfl | rfl <;> rfl)
theorem src_swAt (W : World) (b : Nat) (hb : W.heap.size = b) (x : Sw) : Src Tryd.prog 7 23 (.slice (some ⟨b, 0, none⟩) 1 1) [x].length (swcells [x]) (W.alloc (.cells #[.int .i64 x.k, .int .i64 x.o, .int .i64 x.t, .int .i64 x.p, .int .i64 x.q, .string x.key, .string x.val] 28)) := by
  subst hb
  exact src_sw W x
theorem step_append_txs {ops : Array Oper} {o : Oper} {a : Act} {w w1 : World} {K : Act → World → Prop} {Q : Exit → Act → World → Prop} {E : Prop}
    (hg : o.guard = none) (s x : Operand) (hop : o.op = Op.call { callee := Callee.builtin Builtin.append, args := #[s, x], argTypes := #[24, 24] }) (v xv : Value) (vs : List Value) (y : Value) (r : Option Nat)
    (hs : a.eval s = v) (hx : a.eval x = xv) (hown : OwnV w v vs r) (hb1 : Below w.heap.size w w1) (hsrc : Src Tryd.prog 1 24 xv [y].length [y] w1) (hlen : vs.length ≤ 8796093022000)
    (hK : ∀ v' w' g, OwnV w' v' (vs ++ [y]) (some g) → w1.grownBy w' r → (some g = r ∨ g = w1.heap.size) → K (a.put o.dst v') w') :
    if Region.wanted o (yielded ops a.tmps) = true then Oper.wp Tryd.prog o a w1 K Q else E := by
  have hw : Region.wanted o (yielded ops a.tmps) = true := by simp [Region.wanted, hg]
  rw [if_pos hw]
  obtain ⟨v', w', g, hrun, k1, k2, k3⟩ := run_append_txs w1 o.type v xv vs [y] r (hown.of_block hb1.size (fun g e => hb1.block g (by subst e; exact hown.lt))) hsrc (by simp; omega) (.inr (by simp))
  unfold Oper.wp
  simp [execOp, hop, resolve, invoke, builtin, hs, hx, hrun, Result.andThen]
  exact hK v' w' g k1 k2 k3
theorem rpBoxV (w : World) (r : Rp) (vr vn : Value) (t : TypeId) : Below w.heap.size w (w.alloc (.cells (rpA r vr vn) t)) ∧ Bx w (w.alloc (.cells (rpA r vr vn) t)) w.heap.size (rpA r vr vn).toList :=
  ⟨(Below.refl _ _).alloc (Nat.le_refl _) _, Bx.new (Nat.le_refl _) (rpA r vr vn).toList t⟩
/-- The eight cells of a response. -/
theorem Bx.rpc {W u : World} {X : Nat} {r : Rp} {vr vn : Value} (h : Bx W u X (rpA r vr vn).toList) : u.cell? ⟨X, 0, none⟩ = some (.int .u32 r.id) ∧ u.cell? ⟨X, 1, none⟩ = some (.int .i64 r.op) ∧ u.cell? ⟨X, 2, none⟩ = some (.int .i64 r.code) ∧ u.cell? ⟨X, 3, none⟩ = some (.int .i64 r.offset) ∧ u.cell? ⟨X, 4, none⟩ = some (.int .i64 r.number) ∧ u.cell? ⟨X, 5, none⟩ = some (.bool r.more) ∧ u.cell? ⟨X, 6, none⟩ = some vr ∧ u.cell? ⟨X, 7, none⟩ = some vn :=
  ⟨h.c 0 (by simp), h.c 1 (by simp), h.c 2 (by simp), h.c 3 (by simp), h.c 4 (by simp), h.c 5 (by simp), h.c 6 (by simp), h.c 7 (by simp)⟩
theorem ext_getDV {α : Type} {x y : List α} {d : α} (hl : x.length = y.length) (h : ∀ j, j < y.length → x.getD j d = y.getD j d) : x = y := by
  refine List.ext_getElem hl fun j h1 h2 => ?_
  have := h j h2
  rw [List.getD_eq_getElem?_getD, List.getD_eq_getElem?_getD, List.getElem?_eq_getElem h1, List.getElem?_eq_getElem h2] at this
  exact this
theorem set_stepV {α : Type} {x y : List α} {d : α} {k : Nat} (hk : k < x.length) (h : ∀ j, j < k → x.getD j d = y.getD j d) : ∀ j, j < k + 1 → (x.set k (y.getD k d)).getD j d = y.getD j d := fun j hj => by
  by_cases e : j = k
  · subst e
    rw [List.getD_eq_getElem?_getD (l := x.set _ _), List.getElem?_set_self hk]; rfl
  · rw [List.getD_eq_getElem?_getD (l := x.set _ _), List.getElem?_set_ne (Ne.symm e), ← List.getD_eq_getElem?_getD]
    exact h j (by omega)
theorem below_drewV (w : World) (n : Nat) : Below w.heap.size w (w.drewN n) := ⟨rfl, rfl, rfl, Nat.le_refl _, fun _ _ => rfl⟩
theorem ba_x (y : By) : ba y ++ (⟨#[120]⟩ : ByteArray) = ba (y ++ [120]) := by
  apply ByteArray.ext
  rw [ByteArray.data_append]
  apply Array.ext'
  simp [ba]

set_option maxHeartbeats 16000000 in
set_option maxRecDepth 100000 in
theorem showsWalk {Tb : World → Prop} (hTb : ∀ u v, Tb u → Below u.heap.size u v → Tb v) (hS : ShowOk Tb) (r : Rp) (vr vn : Value) (w : World) (h1 : SrsAt w vr r.recs) (h2 : NmsAt w vn r.names) (ok : r.Ok) (b1 : r.names.length ≤ 1048576) (b2 : r.recs.length ≤ 1048576) (b3 : ∀ x ∈ r.names, x.length ≤ 1048576) (b4 : ∀ x ∈ r.recs, x.key.length ≤ 1048576 ∧ x.value.length ≤ 1048576) (ht : Tb w) :
    Calls Tryd.prog 3 #[rpV r vr vn] w fun e w' => e = .returned (.bool true) ∧ Below w.heap.size w w' := by
  have HTB : Hid (∀ u, Below w.heap.size w u → Tb u) := fun u hu => hTb w u ht hu
  have H1 := mkV h1
  have H2 := mkV h2
  have HS := mkV hS
  have HB3 := mkV b3
  have HB4 := mkV b4
  have HOK := mkV ok
  obtain ⟨ar, kr, rfl, _, _, q3, _⟩ := h1
  obtain ⟨an, kn, rfl, _⟩ := h2
  have HRO := mkV q3
  clear hS b3 b4 ok q3
  have hx1 := rpBoxV w r (.slice ar r.recs.length kr) (.slice an r.names.length kn) 26
  obtain ⟨W1, hW1⟩ : ∃ u, w.alloc (.cells #[.int .u32 r.id, .int .i64 r.op, .int .i64 r.code, .int .i64 r.offset, .int .i64 r.number, .bool r.more, .slice ar r.recs.length kr, .slice an r.names.length kn] 26) = u := ⟨_, rfl⟩
  rw [hW1] at hx1
  obtain ⟨X0, hX0⟩ : ∃ X, w.heap.size = X := ⟨_, rfl⟩
  have HB1 : Hid (Below w.heap.size w W1) := hx1.1
  have HX1 : Hid (∀ u, Below W1.heap.size W1 u → Bx w u X0 (rpA r (.slice ar r.recs.length kr) (.slice an r.names.length kn)).toList) := fun u hu => by rw [← hX0]; exact hx1.2.later hu
  have HRD : Hid (∀ u, Below W1.heap.size W1 u → SrsAt u (.slice ar r.recs.length kr) r.recs ∧ NmsAt u (.slice an r.names.length kn) r.names) := fun u hu => ⟨(H1.out.later HB1.out).later hu, (H2.out.later HB1.out).later hu⟩
  obtain ⟨m0, m1, m2, m3, m4, m5, m6, m7⟩ := (HX1.out W1 (Below.refl _ _)).rpc
  have hs1 : W1.heap.size = X0 + 1 := by rw [← hW1, ← hX0]; simp
  have hx3 := rpBoxV W1 r (.slice none 0 0) (.slice none 0 0) 26
  obtain ⟨W3, hW3⟩ : ∃ u, W1.alloc (.cells #[.int .u32 r.id, .int .i64 r.op, .int .i64 r.code, .int .i64 r.offset, .int .i64 r.number, .bool r.more, .slice none 0 0, .slice none 0 0] 26) = u := ⟨_, rfl⟩
  rw [hW3, hs1] at hx3
  have HS0 : Hid (ShS W1 W3 (X0 + 1) r (.slice none 0 0) (.slice none 0 0) [] [] none none) := ⟨hx3.2, OwnV.nil _, OwnSw.nil _, by rw [hs1]; exact hx3.1, by simp, by simp, .inl rfl⟩
  have HSZ := mkV hs1
  have HW3 := mkV hW3
  clear hx1 hx3 H1 H2 hW3
  go_enter Tryd.func3, Tryd.ntmps3
  go_wp2_with fail
  rw [HW3.out]
  clear HW3 hs1 hX0 m0 m1 m2 m3 m4 m5 m6 m7
  generalize X0 + 1 = Xc at *
  go_loopw [4] (fun i wl => ∃ (k : Nat) (L : List By) (a : Option Addr) (c : Nat) (rn : Option Nat), k ≤ r.names.length ∧ i = .int .i64 k ∧ L.length = k ∧ Hid (SmN L) ∧ Hid (ShS W1 wl Xc r (.slice none 0 0) (.slice a k c) L [] rn none)) (fun i _ => r.names.length - (intOf i).toNat)
  case atStart => exact ⟨0, [], none, 0, none, Nat.zero_le _, rfl, rfl, fun x hx => (by cases hx), HS0⟩
  case round =>
    clear HS0
    obtain ⟨k, L, a, c, rn, hk, rfl, hL, HSM, HT⟩ := hrel
    obtain ⟨m0, m1, m2, m3, m4, m5, m6, m7⟩ := (HX1.out wr HT.out.be).rpc
    obtain ⟨n0, n1, n2, n3, n4, n5, n6, n7, fz6, fz7⟩ := HT.out.cells
    have hXl := HT.out.box.lt
    by_cases hp : k < r.names.length
    · have hki : (k : Int) < (r.names.length : Int) := by omega
      obtain ⟨_, _, e0, _, _, _, hc0⟩ := (HRD.out wr HT.out.be).2
      cases e0
      obtain ⟨bn, obn, rfl, hcn⟩ := hc0 (fun e => by rw [e] at hp; simp at hp)
      have HC0 : Hid (∀ u, Below W1.heap.size W1 u → u.cell? ⟨bn, obn + k, none⟩ = some (.string (ba (r.names.getD k [])))) := fun u hu => by
        obtain ⟨_, _, e, _, _, _, hc⟩ := (HRD.out u hu).2
        cases e
        obtain ⟨b', o', e', hcc⟩ := hc (fun e => by rw [e] at hp; simp at hp)
        cases e'
        exact hcc k hp
      have c0 := HC0.out wr HT.out.be
      have hy0 : (r.names.getD k []).length ≤ 1048576 := HB3.out _ (by rw [List.getD_eq_getElem?_getD, List.getElem?_eq_getElem hp]; exact List.getElem_mem hp)
      generalize r.names.getD k [] = y0 at *
      have hcat : ba y0 ++ (⟨#[120]⟩ : ByteArray) = ba (y0 ++ [120]) := ba_x y0
      have hy1 : (y0 ++ [120]).length ≤ 1048577 := by simp; omega
      have hbd : ¬ 9223372036854775807 < y0.length + 1 := by omega
      have hszy : (ba y0).size = y0.length := rfl
      generalize y0 ++ [120] = y at *
      have hbD : Below wr.heap.size wr wr.drew := (Below.refl _ wr).drew
      have hbA : Below wr.heap.size wr (wr.drew.alloc (.cells #[.string (ba y)] 9)) := hbD.alloc (Nat.le_refl _) _
      have s01 : wr.drew.cell? ⟨Xc, 7, none⟩ = some (.slice a k c) := n7
      have s02 : wr.drew.cell? ⟨X0, 7, none⟩ = some (.slice (some ⟨bn, obn, none⟩) r.names.length kn) := m7
      have s03 : wr.drew.cell? ⟨bn, obn + k, none⟩ = some (.string (ba y0)) := c0
      have s11 : (wr.drew.alloc (.cells #[.string (ba y)] 9)).cell? ⟨Xc, 7, none⟩ = some (.slice a k c) := (hbA.cell (cell_lt n7)).trans n7
      have s12 : (wr.drew.alloc (.cells #[.string (ba y)] 9)).cell? ⟨X0, 7, none⟩ = some (.slice (some ⟨bn, obn, none⟩) r.names.length kn) := (hbA.cell (cell_lt m7)).trans m7
      have s13 : (wr.drew.alloc (.cells #[.string (ba y)] 9)).cell? ⟨bn, obn + k, none⟩ = some (.string (ba y0)) := (hbA.cell (cell_lt c0)).trans c0
      have HOV : Hid (OwnV wr (.slice a k c) (strV L) rn) := HT.out.n
      have HLL : Hid ((strV L).length ≤ 8796093022000) := by unfold Hid; rw [strV_len]; omega
      have HBA := mkV hbA
      clear hbA hbD hcn hc0
      go_wp2_with fail
      refine wp_region_noPanic ?_
      refine Till.start 11 (S := fun u => u.cell? ⟨Xc, 7, none⟩ = some (.slice a k c) ∧ u.cell? ⟨X0, 7, none⟩ = some (.slice (some ⟨bn, obn, none⟩) r.names.length kn) ∧ u.cell? ⟨bn, obn + k, none⟩ = some (.string (ba y0))) (by kernel_rfl) ⟨s01, s02, s03⟩ (fun hHeld => ?_)
      refine' Till.take 0 rfl (by kernel_rfl) (by kernel_rfl) (by kernel_rfl) (by kernel_rfl) (fun _ _ _ h => h) (Or.inl ⟨by rfl, ?_⟩) (by assumption) ?_
      rotate_left
      · (intro w hSw; (try dsimp only at hSw); go_simp <;> with_reducible rfl)
      try simp only [Act.put, List.setIfInBounds_toArray, List.set_cons_zero, List.set_cons_succ]
      refine' Till.take 1 rfl (by kernel_rfl) (by kernel_rfl) (by kernel_rfl) (by kernel_rfl) (fun _ _ _ h => h) (Or.inl ⟨by rfl, ?_⟩) (by assumption) ?_
      rotate_left
      · (intro w hSw; (try dsimp only at hSw); go_simp <;> with_reducible rfl)
      try simp only [Act.put, List.setIfInBounds_toArray, List.set_cons_zero, List.set_cons_succ]
      refine' Till.take 2 rfl (by kernel_rfl) (by kernel_rfl) (by kernel_rfl) (by kernel_rfl) (fun _ _ _ h => h) (Or.inl ⟨by rfl, ?_⟩) (by assumption) ?_
      rotate_left
      · (intro w hSw; (try dsimp only at hSw); go_simp <;> with_reducible rfl)
      try simp only [Act.put, List.setIfInBounds_toArray, List.set_cons_zero, List.set_cons_succ]
      refine' Till.take 3 rfl (by kernel_rfl) (by kernel_rfl) (by kernel_rfl) (by kernel_rfl) (fun _ _ _ h => h) (Or.inl ⟨by rfl, ?_⟩) (by assumption) ?_
      rotate_left
      · (intro w hSw; (try dsimp only at hSw); go_simp <;> with_reducible rfl)
      try simp only [Act.put, List.setIfInBounds_toArray, List.set_cons_zero, List.set_cons_succ]
      refine' Till.take 4 rfl (by kernel_rfl) (by kernel_rfl) (by kernel_rfl) (by kernel_rfl) (fun _ _ _ h => h) (Or.inl ⟨by rfl, ?_⟩) (by assumption) ?_
      rotate_left
      · (intro w hSw; (try dsimp only at hSw); go_simp <;> with_reducible rfl)
      try simp only [Act.put, List.setIfInBounds_toArray, List.set_cons_zero, List.set_cons_succ]
      refine' Till.take 5 rfl (by kernel_rfl) (by kernel_rfl) (by kernel_rfl) (by kernel_rfl) (fun _ _ _ h => h) (Or.inl ⟨by rfl, ?_⟩) (by assumption) ?_
      rotate_left
      · (intro w hSw; (try dsimp only at hSw); go_simp <;> with_reducible rfl)
      try simp only [Act.put, List.setIfInBounds_toArray, List.set_cons_zero, List.set_cons_succ]
      refine' Till.take 6 rfl (by kernel_rfl) (by kernel_rfl) (by kernel_rfl) (by kernel_rfl) (fun _ _ _ h => h) (Or.inl ⟨by rfl, ?_⟩) (by assumption) ?_
      rotate_left
      · (intro w hSw; (try dsimp only at hSw); go_simp <;> with_reducible rfl)
      try simp only [Act.put, List.setIfInBounds_toArray, List.set_cons_zero, List.set_cons_succ]
      refine' Till.take 7 rfl (by kernel_rfl) (by kernel_rfl) (by kernel_rfl) (by kernel_rfl) (fun _ _ _ h => h) (Or.inl ⟨by rfl, ?_⟩) (by assumption) ?_
      rotate_left
      · (intro w hSw; (try dsimp only at hSw); go_simp <;> with_reducible rfl)
      try simp only [Act.put, List.setIfInBounds_toArray, List.set_cons_zero, List.set_cons_succ]
      refine Till.one 8 (by kernel_rfl) rfl (fun K hK => ?_)
      go_simp
      refine hK.out _ _ ?_ (fun hHeld => ?_)
      · exact ⟨s11, s12, s13⟩
      clear hK K
      try simp only [Act.put, List.setIfInBounds_toArray, List.set_cons_zero, List.set_cons_succ]
      refine Till.one 9 (by kernel_rfl) rfl (fun K hK => ?_)
      refine step_append_txs (w := wr) rfl (.tmp 25) (.tmp 32) rfl (.slice a k c) (.slice (some ⟨wr.heap.size, 0, none⟩) 1 1) (strV L) (.string (ba y)) rn (by first | rfl | simp [Act.eval, Act.put]) (by first | rfl | simp [Act.eval, Act.put]) HOV.out HBA.out (srcTx wr.drew (ba y)) HLL.out ?_
      intro v' w7 g7 ho7 hg7 hr7
      have HN7 := mkV (HT.out.pushN HBA.out ho7 hg7 hr7)
      obtain ⟨a7, c7, rfl, _, _⟩ := ho7.shape
      have hl7 : (strV L ++ [Value.string (ba y)]).length = k + 1 := by rw [List.length_append, strV_len, hL]; rfl
      rw [hl7] at HN7 ⊢
      have t7 := HN7.out.box.c 7 (by simp)
      have t7f := HN7.out.box.fz 7 (by simp)
      have hbe7 := HN7.out.be
      have t8 := ((HX1.out w7 hbe7).rpc).2.2.2.2.2.2.2
      have t9 : w7.cell? ⟨bn, obn + k, none⟩ = some (.string (ba y0)) := HC0.out w7 hbe7
      clear ho7 hg7 hr7 hl7 hbe7
      refine hK.out _ _ ?_ (fun hHeld => ?_)
      · exact ⟨t7, t8, t9⟩
      clear hK K
      try simp only [Act.put, List.setIfInBounds_toArray, List.set_cons_zero, List.set_cons_succ]
      refine' Till.take 10 rfl (by kernel_rfl) (by kernel_rfl) (by kernel_rfl) (by kernel_rfl) (fun _ _ _ h => h) (Or.inl ⟨by rfl, ?_⟩) (by assumption) ?_
      rotate_left
      · (intro w hSw; (try dsimp only at hSw); go_simp <;> with_reducible rfl)
      try simp only [Act.put, List.setIfInBounds_toArray, List.set_cons_zero, List.set_cons_succ]
      refine Till.last (by kernel_rfl) (by kernel_rfl) rfl (fun K hK => ?_)
      go_simp
      refine hK.out _ _ ?_
      clear hK K
      try simp only [Act.put, List.setIfInBounds_toArray, List.set_cons_zero, List.set_cons_succ]
      refine NoPanic.normal ?_
      have HT8 := mkV HN7.out.put
      clear HN7 s01 s02 s03 s11 s12 s13 t7 t7f t8 t9 HOV HLL HBA hHeld HT m0 m1 m2 m3 m4 m5 m6 m7 n0 n1 n2 n3 n4 n5 n6 n7 fz6 fz7 c0
      have HSM2 : Hid (SmN (L ++ [y])) := fun x hx => by
        rcases List.mem_append.1 hx with e | e
        · exact HSM.out x e
        · rw [List.mem_singleton.1 e]; exact hy1
      go_wp2
      go_roundw
      case rel => exact ⟨k + 1, _, a7, c7, _, by omega, by go_num, by rw [List.length_append, hL]; rfl, HSM2, HT8⟩
      case measure => simp [intOf]; omega
    · have hki : ¬ (k : Int) < (r.names.length : Int) := by omega
      have hkn : k = r.names.length := by omega
      subst hkn
      obtain ⟨LN, hLN⟩ : ∃ l, L = l := ⟨_, rfl⟩
      obtain ⟨aN, haN⟩ : ∃ l, a = l := ⟨_, rfl⟩
      obtain ⟨cN, hcN⟩ : ∃ l, c = l := ⟨_, rfl⟩
      obtain ⟨rN, hrN⟩ : ∃ l, rn = l := ⟨_, rfl⟩
      subst hLN haN hcN hrN
      have HSMN := HSM
      have HLN := mkV hL
      have HT1 := HT
      clear HT HSM hL
      go_wp2
      clear m0 m1 m2 m3 m4 m5 m6 m7 n0 n1 n2 n3 n4 n5 n6 n7 fz6 fz7 hXl
      go_loopw [5] (fun i wl => ∃ (k : Nat) (R : List Sr) (ac : Option Addr) (cc : Nat) (rr : Option Nat), k ≤ r.recs.length ∧ i = .int .i64 k ∧ R.length = k ∧ Hid (SmR R) ∧ Hid (ShS W1 wl Xc r (.slice ac k cc) (.slice a r.names.length c) L R rn rr)) (fun i _ => r.recs.length - (intOf i).toNat)
      case atStart => exact ⟨0, [], none, 0, none, Nat.zero_le _, rfl, rfl, fun x hx => (by cases hx), HT1⟩
      case round =>
        clear HT1
        obtain ⟨k, R, ac, cc, rr, hk, rfl, hR, HSM, HT⟩ := hrel
        obtain ⟨m0, m1, m2, m3, m4, m5, m6, m7⟩ := (HX1.out wr HT.out.be).rpc
        obtain ⟨n0, n1, n2, n3, n4, n5, n6, n7, fz6, fz7⟩ := HT.out.cells
        have hXl := HT.out.box.lt
        by_cases hp : k < r.recs.length
        · have hki : (k : Int) < (r.recs.length : Int) := by omega
          obtain ⟨_, _, e0, _, _, _, hc0⟩ := (HRD.out wr HT.out.be).1
          cases e0
          obtain ⟨bn, obn, rfl, hcn⟩ := hc0 (fun e => by rw [e] at hp; simp at hp)
          obtain ⟨x0, x1, x2, x3, x4, x5, x6⟩ := hcn k hp
          have hmem : r.recs.getD k Sr.none ∈ r.recs := by rw [List.getD_eq_getElem?_getD, List.getElem?_eq_getElem hp]; exact List.getElem_mem hp
          have hy0 := HB4.out _ hmem
          have hyo := HRO.out _ hmem
          generalize r.recs.getD k Sr.none = y0 at *
          obtain ⟨kk, oo, tt, pp, ss, key, val⟩ := y0
          simp only at x0 x1 x2 x3 x4 x5 x6 hy0
          have HYO := mkV hyo
          clear hyo hcn hc0
          have HON : Hid (OwnSw wr (.slice ac k cc) (swL R) rr) := HT.out.rc
          have HLL : Hid ((swL R).length ≤ 1954687338000) := by unfold Hid; rw [swL_len]; omega
          go_wp2_with (at_builtin; refine wpList_append_sw _ rfl _ _ rfl _ _ (swL R) [swOf ⟨kk, wrap64 (oo + 1), tt, pp, ss, key, val⟩] rr rfl rfl ?hOwn ?hSrc ?hLen (.inr (by simp)) ?_)
          case hOwn => exact (HON.out.later ((Below.refl _ wr).alloc (Nat.le_refl _) _)).later ((Below.refl _ _).alloc (Nat.le_refl _) _)
          case hSrc => exact src_swAt (wr.alloc (.cells #[.int .i64 kk, .int .i64 (wrap64 (oo + 1)), .int .i64 tt, .int .i64 pp, .int .i64 ss, .string (ba key), .string (ba val)] 28)) _ (by simp) (swOf ⟨kk, wrap64 (oo + 1), tt, pp, ss, key, val⟩)
          case hLen => rw [swL_len]; simp; omega
          intro v7 w7 g7 ho7 hg7 hr7
          have HR7 := mkV (HT.out.pushR (((Below.refl _ wr).alloc (Nat.le_refl _) _).trans (((Below.refl _ _).alloc (Nat.le_refl _) _).mono (by simp))) ho7 hg7 (by simpa using hr7))
          obtain ⟨a7, c7, rfl, _, _⟩ := ho7.shape
          have hl7 : (swL R ++ [swOf ⟨kk, wrap64 (oo + 1), tt, pp, ss, key, val⟩]).length = k + 1 := by rw [List.length_append, swL_len, hR]; rfl
          rw [hl7] at HR7 ⊢
          have t7 := HR7.out.box.c 6 (by simp)
          have t7f := HR7.out.box.fz 6 (by simp)
          have HT8 := mkV HR7.out.put
          clear ho7 hg7 hr7 hl7 HON HLL HT HR7 m0 m1 m2 m3 m4 m5 m6 m7 n0 n1 n2 n3 n4 n5 n6 n7 fz6 fz7 x0 x1 x2 x3 x4 x5 x6
          have HSM2 : Hid (SmR (R ++ [⟨kk, wrap64 (oo + 1), tt, pp, ss, key, val⟩])) := fun x hx => by
            rcases List.mem_append.1 hx with e | e
            · exact HSM.out x e
            · rw [List.mem_singleton.1 e]
              have h := HYO.out
              refine ⟨⟨h.kind, ?_, h.time, h.pid, h.seq, h.key, h.value⟩, by simp only; omega, by simp only; omega⟩
              have := bounds_i64 (RowKit.wrap64_wf (oo + 1))
              exact ⟨by simp only; omega, by simp only; omega⟩
          go_wp2
          go_roundw
          case rel => exact ⟨k + 1, _, a7, c7, _, by omega, by go_num, by rw [List.length_append, hR]; rfl, HSM2, HT8⟩
          case measure => simp [intOf]; omega
        · have hki : ¬ (k : Int) < (r.recs.length : Int) := by omega
          have hkn : k = r.recs.length := by omega
          subst hkn
          have HLR := mkV hR
          have HSMR := HSM
          have HON : Hid (OwnV wr (.slice a r.names.length c) (strV L) rn) := HT.out.n
          have HORc : Hid (OwnSw wr (.slice ac r.recs.length cc) (swL R) rr) := HT.out.rc
          have HLL : Hid ((strV L).length = r.names.length) := by unfold Hid; rw [strV_len]; exact HLN.out
          have HLS : Hid ((swL R).length = r.recs.length) := by unfold Hid; rw [swL_len]; exact HLR.out
          clear HSM hR
          go_wp2_with (at_builtin; refine wpList_append_txs _ rfl _ _ rfl _ _ (strV L) [.string ⟨#[47]⟩] rn rfl rfl ?hOwn ?hSrc ?hLen (.inr (by simp)) ?_)
          case hOwn => exact HON.out.of_block (by simp) (fun g e => heap_alloc_old _ _ (by subst e; exact HON.out.lt))
          case hSrc => exact srcTx wr ⟨#[47]⟩
          case hLen => rw [HLL.out]; omega
          intro v8 w8 g8 ho8 hg8 hr8
          have HN8 := mkV (HT.out.pushN (y := [47]) ((Below.refl _ wr).alloc (Nat.le_refl _) (.cells #[.string ⟨#[47]⟩] 9)) ho8 hg8 (by simpa using hr8))
          obtain ⟨a8, c8, rfl, _, _⟩ := ho8.shape
          have hl8 : (strV L ++ [Value.string ⟨#[47]⟩]).length = L.length + 1 := by rw [List.length_append, strV_len]; rfl
          rw [hl8] at HN8 ⊢
          obtain rfl : a8 = some ⟨g8, 0, none⟩ := by
            rcases ho8 with ⟨_, _, e⟩ | ⟨g', cap, eg, e, _⟩
            · cases e
            · cases eg; injection e
          have HRs : Hid (OwnSw w8 (.slice ac r.recs.length cc) (swL R) rr) := HN8.out.rc
          have HBX8 := mkV HN8.out.box
          clear ho8 hg8 hr8 hl8 HON HORc HT m0 m1 m2 m3 m4 m5 m6 m7 n0 n1 n2 n3 n4 n5 n6 n7 fz6 fz7
          obtain ⟨m0, m1, m2, m3, m4, m5, m6, m7⟩ := (HX1.out w8 HN8.out.be).rpc
          obtain ⟨n0, n1, n2, n3, n4, n5, n6, n7⟩ := HBX8.out.rpc
          have hXl := HBX8.out.lt
          go_wp2_with (at_builtin; refine wpList_append_sw _ rfl _ _ rfl _ _ (swL R) [mkR] rr rfl rfl ?hOwn ?hSrc ?hLen (.inr (by simp)) ?_)
          case hOwn => exact HRs.out.later ((Below.refl _ _).alloc (Nat.le_refl _) _)
          case hSrc => exact src_sw w8 mkR
          case hLen => rw [HLS.out]; first | omega | (simp; omega)
          intro v9 w9 g9 ho9 hg9 hr9
          obtain ⟨a9, c9, rfl, _, _⟩ := ho9.shape
          have hl9 : (swL R ++ [mkR]).length = R.length + 1 := by rw [List.length_append, swL_len]; rfl
          rw [hl9] at ho9 ⊢
          obtain rfl : a9 = some ⟨g9, 0, none⟩ := by
            rcases ho9 with ⟨_, _, e⟩ | ⟨g', cap, eg, e, _⟩
            · cases e
            · cases eg; injection e
          obtain ⟨hbx9, hbe9, hT9⟩ := HN8.out.toT ((Below.refl _ w8).alloc (Nat.le_refl _) (.cells #[.int .i64 (-77), .int .i64 0, .int .i64 0, .int .i64 0, .int .i64 0, .string ⟨#[]⟩, .string ⟨#[]⟩] 28)) ho9 hg9 (by simpa using hr9)
          have hcap := hT9.capN
          rw [HLN.out, HLR.out] at hT9 hcap
          rw [HLN.out, HLR.out]
          obtain ⟨W10, hW10⟩ : ∃ u, w9.setCell ⟨Xc, 7, none⟩ (.slice (some ⟨g8, 0, none⟩) r.names.length c8) = u := ⟨_, rfl⟩
          obtain ⟨W11, hW11⟩ : ∃ u, W10.setCell ⟨Xc, 6, none⟩ (.slice (some ⟨g9, 0, none⟩) r.recs.length c9) = u := ⟨_, rfl⟩
          rw [hW10, hW11] at hT9
          have hg10 := grow_setCells w9 Xc 7 [Value.slice (some ⟨g8, 0, none⟩) r.names.length c8]
          have hbe10 : Below W1.heap.size W1 W10 := by
            rw [← hW10]
            exact hbe9.trans (grow_below hg10 hbe9.size (fun g' e => by cases e; exact hbx9.ge))
          have y7 := hbx9.c 7 (by simp)
          have y7f := hbx9.fz 7 (by simp)
          have hbx10 := hbx9.set (i := 7) (by simp) (.slice (some ⟨g8, 0, none⟩) r.names.length c8) rfl
          rw [hW10] at hbx10
          have y6 := hbx10.c 6 (by simp)
          have y6f := hbx10.fz 6 (by simp)
          have q7 := (HX1.out w9 hbe9).rpc.2.2.2.2.2.2.2
          have q6 := (HX1.out W10 hbe10).rpc.2.2.2.2.2.2.1
          have HT11 := mkV hT9
          clear ho9 hg9 hr9 hl9 HN8 HRs HBX8 hbx9 hbx10 hg10 hbe9 hbe10 m0 m1 m2 m3 m4 m5 m6 m7 n0 n1 n2 n3 n4 n5 n6 n7 hXl hT9
          obtain ⟨n0, n1, n2, n3, n4, n5, n6, n7⟩ := HT11.out.cells
          rw [HLN.out] at n7
          rw [HLR.out] at n6
          have HSH : Hid (Calls Tryd.prog 4 #[rpV r (.slice (some ⟨g9, 0, none⟩) r.recs.length c9) (.slice (some ⟨g8, 0, none⟩) r.names.length c8)] W11 fun e w' => e = .returned (.string (ba (showL ⟨r.id, r.op, r.code, r.offset, r.number, r.more, R, L⟩))) ∧ Below W11.heap.size W11 w') := by
            have z1 := HT11.out.srs (by rw [HLR.out]; omega) (fun x hx => (HSMR.out x hx).1)
            have z2 := HT11.out.nms (by rw [HLN.out]; omega) (fun x hx => by have := HSMN.out x hx; omega)
            rw [HLR.out] at z1
            rw [HLN.out] at z2
            have hok := HOK.out
            exact HS.out ⟨r.id, r.op, r.code, r.offset, r.number, r.more, R, L⟩ _ _ W11 (HTB.out _ (HB1.out.trans (HT11.out.be.mono HB1.out.size))) z1 z2 ⟨hok.id1, hok.id2, hok.op, hok.code, hok.offset, hok.number⟩ ⟨by show L.length ≤ _; rw [HLN.out]; exact b1, by show R.length ≤ _; rw [HLR.out]; exact b2, HSMN.out, HSMR.out⟩ (show_len ⟨hok.id1, hok.id2, hok.op, hok.code, hok.offset, hok.number⟩ (by show L.length ≤ _; rw [HLN.out]; exact b1) (by show R.length ≤ _; rw [HLR.out]; exact b2) HSMN.out HSMR.out)
          go_wp2_with fail
          refine HSH.out.mono ?_
          rintro e w12 ⟨rfl, hb12⟩
          have HT12 := mkV (HT11.out.later hb12)
          generalize ba (showL ⟨r.id, r.op, r.code, r.offset, r.number, r.more, R, L⟩) = s12
          clear HSH hb12 HT11 hW10 hW11 y7 y7f y6 y6f q7 q6 n0 n1 n2 n3 n4 n5 n6 n7 HLL HLS HSMN HSMR
          have hlr : R.length = r.recs.length := HLR.out
          have hln : L.length = r.names.length := HLN.out
          have HL0 := mkV hln
          clear hlr hln HLN
          go_wp2
          go_loopw [9] (fun i wl => ∃ (k : Nat) (L : List By), k ≤ r.names.length ∧ i = .int .i64 k ∧ Hid (L.length = r.names.length) ∧ Hid (∀ j, j < k → L.getD j [] = r.names.getD j []) ∧ Hid (ShT W1 wl Xc r g8 c8 g9 c9 L R)) (fun i _ => r.names.length - (intOf i).toNat)
          case atStart => exact ⟨0, L, Nat.zero_le _, rfl, HL0, fun j hj => absurd hj (Nat.not_lt_zero _), HT12⟩
          case round =>
            clear HT12 HL0
            obtain ⟨k, L2, hk, rfl, HLN, HE, HT⟩ := hrel
            obtain ⟨m0, m1, m2, m3, m4, m5, m6, m7⟩ := (HX1.out wr HT.out.be).rpc
            obtain ⟨n0, n1, n2, n3, n4, n5, n6, n7⟩ := HT.out.cells
            rw [HLN.out] at n7
            rw [HLR.out] at n6
            by_cases hp : k < r.names.length
            · have hki : (k : Int) < (r.names.length : Int) := by omega
              obtain ⟨_, _, e0, _, _, _, hc0⟩ := (HRD.out wr HT.out.be).2
              cases e0
              obtain ⟨bn, obn, rfl, hcn⟩ := hc0 (fun e => by rw [e] at hp; simp at hp)
              have c0 := hcn k hp
              have hkl : k < L2.length := by rw [HLN.out]; exact hp
              obtain ⟨q1, q2⟩ := HT.out.atN hkl
              have HN : Hid (ShT W1 (wr.setCell ⟨g8, k, none⟩ (.string (ba (r.names.getD k [])))).drew Xc r g8 c8 g9 c9 (L2.set k (r.names.getD k [])) R) := (HT.out.setN hkl _).drew
              have HE2 : Hid (∀ j, j < k + 1 → (L2.set k (r.names.getD k [])).getD j [] = r.names.getD j []) := set_stepV hkl HE.out
              have HL2 : Hid ((L2.set k (r.names.getD k [])).length = r.names.length) := by unfold Hid; rw [List.length_set]; exact HLN.out
              clear hcn hc0 HE HT HLN hkl
              generalize L2.set k (r.names.getD k []) = L3 at *
              generalize r.names.getD k [] = y0 at *
              generalize L2.getD k [] = y1 at *
              go_wp2
              go_region
              all_goals go_wp2
              exact ⟨⟨k + 1, L3, by omega, by go_num, HL2, HE2, HN⟩, by simp [intOf]; omega⟩
            · have hki : ¬ (k : Int) < (r.names.length : Int) := by omega
              have hLe : L2 = r.names := ext_getDV HLN.out (fun j hj => HE.out j (by omega))
              subst hLe
              have HT3 := HT
              clear HT HE HLN
              have HR0 := mkV (HLR.out)
              go_wp2
              clear m0 m1 m2 m3 m4 m5 m6 m7 n0 n1 n2 n3 n4 n5 n6 n7
              go_loopw [10] (fun i wl => ∃ (k : Nat) (R : List Sr), k ≤ r.recs.length ∧ i = .int .i64 k ∧ Hid (R.length = r.recs.length) ∧ Hid (∀ j, j < k → R.getD j Sr.none = r.recs.getD j Sr.none) ∧ Hid (ShT W1 wl Xc r g8 c8 g9 c9 r.names R)) (fun i _ => r.recs.length - (intOf i).toNat)
              case atStart => exact ⟨0, R, Nat.zero_le _, rfl, HR0, fun j hj => absurd hj (Nat.not_lt_zero _), HT3⟩
              case round =>
                clear HT3 HR0 HLR
                obtain ⟨k, R2, hk, rfl, HLR, HE, HT⟩ := hrel
                obtain ⟨m0, m1, m2, m3, m4, m5, m6, m7⟩ := (HX1.out wr HT.out.be).rpc
                obtain ⟨n0, n1, n2, n3, n4, n5, n6, n7⟩ := HT.out.cells
                rw [HLR.out] at n6
                by_cases hp : k < r.recs.length
                · have hki : (k : Int) < (r.recs.length : Int) := by omega
                  obtain ⟨_, _, e0, _, _, _, hc0⟩ := (HRD.out wr HT.out.be).1
                  cases e0
                  obtain ⟨bn, obn, rfl, hcn⟩ := hc0 (fun e => by rw [e] at hp; simp at hp)
                  obtain ⟨x0, x1, x2, x3, x4, x5, x6⟩ := hcn k hp
                  have hkl : k < R2.length := by rw [HLR.out]; exact hp
                  obtain ⟨q1, q2⟩ := HT.out.atR hkl
                  have HN : Hid (ShT W1 (wr.setCells g9 (k * 7) (swOf (r.recs.getD k Sr.none)).cells).drew Xc r g8 c8 g9 c9 r.names (R2.set k (r.recs.getD k Sr.none))) := (HT.out.setR hkl _).drew
                  have HE2 : Hid (∀ j, j < k + 1 → (R2.set k (r.recs.getD k Sr.none)).getD j Sr.none = r.recs.getD j Sr.none) := set_stepV hkl HE.out
                  have HL2 : Hid ((R2.set k (r.recs.getD k Sr.none)).length = r.recs.length) := by unfold Hid; rw [List.length_set]; exact HLR.out
                  obtain ⟨p0, p1, p2, p3, p4, p5, p6⟩ := q1
                  have f0 : wr.frozen? ⟨g9, k * 7, none⟩ = false := q2 0 (by omega)
                  have f1 := q2 1 (by omega)
                  have f2 := q2 2 (by omega)
                  have f3 := q2 3 (by omega)
                  have f4 := q2 4 (by omega)
                  have f5 := q2 5 (by omega)
                  have f6 := q2 6 (by omega)
                  clear hcn hc0 HE HT HLR hkl q2
                  generalize R2.set k (r.recs.getD k Sr.none) = R3 at *
                  generalize r.recs.getD k Sr.none = y0 at *
                  generalize R2.getD k Sr.none = y1 at *
                  obtain ⟨kk, oo, tt, pp, ss, key, val⟩ := y0
                  simp only at x0 x1 x2 x3 x4 x5 x6
                  have HN2 : Hid (ShT W1 (((((((wr.setCell ⟨g9, k * 7, none⟩ (.int .i64 kk)).setCell ⟨g9, k * 7 + 1, none⟩ (.int .i64 oo)).setCell ⟨g9, k * 7 + 2, none⟩ (.int .i64 tt)).setCell ⟨g9, k * 7 + 3, none⟩ (.int .i64 pp)).setCell ⟨g9, k * 7 + 4, none⟩ (.int .i64 ss)).setCell ⟨g9, k * 7 + 5, none⟩ (.string (ba key))).setCell ⟨g9, k * 7 + 6, none⟩ (.string (ba val))).drew Xc r g8 c8 g9 c9 r.names R3) := HN.out
                  clear HN
                  go_wp2
                  go_region
                  all_goals go_wp2
                  exact ⟨⟨k + 1, R3, by omega, by go_num, HL2, HE2, HN2⟩, by simp [intOf]; omega⟩
                · have hki : ¬ (k : Int) < (r.recs.length : Int) := by omega
                  have hRe : R2 = r.recs := ext_getDV HLR.out (fun j hj => HE.out j (by omega))
                  subst hRe
                  clear HE HLR
                  have hlen : (showL r).length ≤ 70368744177664 := show_len HOK.out b1 b2 (fun x hx => by have := HB3.out x hx; omega) (fun x hx => ⟨HRO.out x hx, by have := (HB4.out x hx).1; omega, by have := (HB4.out x hx).2; omega⟩)
                  have HSH : Hid (Calls Tryd.prog 4 #[rpV r (.slice (some ⟨g9, 0, none⟩) r.recs.length c9) (.slice (some ⟨g8, 0, none⟩) r.names.length c8)] wr fun e w' => e = .returned (.string (ba (showL r))) ∧ Below wr.heap.size wr w') :=
                    HS.out r _ _ wr (HTB.out _ (HB1.out.trans (HT.out.be.mono HB1.out.size))) (HT.out.srs (by omega) HRO.out) (HT.out.nms (by omega) (fun x hx => by have := HB3.out x hx; omega)) HOK.out ⟨b1, b2, fun x hx => by have := HB3.out x hx; omega, fun x hx => ⟨HRO.out x hx, by have := (HB4.out x hx).1; omega, by have := (HB4.out x hx).2; omega⟩⟩ hlen
                  have HRS : Hid (∀ u, Below W1.heap.size W1 u → Calls Tryd.prog 5 #[rpV r (.slice ar r.recs.length kr) (.slice an r.names.length kn)] u fun e w' => e = .returned (.string (ba (showL r))) ∧ Below u.heap.size u w') := fun u hu => rshowOf r _ _ u (HRD.out u hu).1 (HRD.out u hu).2 HOK.out (by omega)
                  clear hlen
                  generalize showL r = s at *
                  go_wp2_with fail
                  refine HSH.out.mono ?_
                  rintro e w20 ⟨rfl, hb20⟩
                  have HT20 := mkV (HT.out.later hb20)
                  clear HSH HT hb20 m0 m1 m2 m3 m4 m5 m6 m7 n0 n1 n2 n3 n4 n5 n6 n7
                  obtain ⟨m0, m1, m2, m3, m4, m5, m6, m7⟩ := (HX1.out w20 HT20.out.be).rpc
                  go_wp2_with fail
                  refine (HRS.out _ HT20.out.be).mono ?_
                  rintro e w21 ⟨rfl, hb21⟩
                  have HT21 := mkV (HT20.out.later hb21)
                  clear HRS HT20 hb21 m0 m1 m2 m3 m4 m5 m6 m7
                  obtain ⟨m0, m1, m2, m3, m4, m5, m6, m7⟩ := (HX1.out w21 HT21.out.be).rpc
                  obtain ⟨n0, n1, n2, n3, n4, n5, n6, n7⟩ := HT21.out.cells
                  have k1 := HT21.out.markN
                  have k2 := HT21.out.markR
                  have hcp := HT21.out.capN
                  go_wp2
                  clear k1 k2 m0 m1 m2 m3 m4 m5 m6 m7 n0 n1 n2 n3 n4 n5 n6 n7
                  go_loopw [12] (fun i wl => ∃ k : Nat, k ≤ r.names.length ∧ i = .int .i64 k ∧ Hid (ShT W1 wl Xc r g8 c8 g9 c9 r.names r.recs)) (fun i _ => r.names.length - (intOf i).toNat)
                  case atStart => exact ⟨0, Nat.zero_le _, rfl, HT21⟩
                  case round =>
                    clear HT21
                    obtain ⟨k, hk, rfl, HT⟩ := hrel
                    obtain ⟨m0, m1, m2, m3, m4, m5, m6, m7⟩ := (HX1.out wr HT.out.be).rpc
                    obtain ⟨n0, n1, n2, n3, n4, n5, n6, n7⟩ := HT.out.cells
                    by_cases hp : k < r.names.length
                    · have hki : (k : Int) < (r.names.length : Int) := by omega
                      obtain ⟨_, _, e0, _, _, _, hc0⟩ := (HRD.out wr HT.out.be).2
                      cases e0
                      obtain ⟨bn, obn, rfl, hcn⟩ := hc0 (fun e => by rw [e] at hp; simp at hp)
                      have c0 := hcn k hp
                      obtain ⟨q1, _⟩ := HT.out.atN hp
                      clear hcn hc0
                      generalize r.names.getD k [] = y0 at *
                      have hyy : (y0 == y0) = true := by simp
                      go_wp2
                      go_quiet (fail)
                      go_wp2
                      go_roundw
                      case rel => exact ⟨k + 1, by omega, by go_num, HT.out.later (below_drewV _ _)⟩
                      case measure => simp [intOf]; omega
                    · have hki : ¬ (k : Int) < (r.names.length : Int) := by omega
                      have HT2 := HT
                      go_wp2
                      clear HT m0 m1 m2 m3 m4 m5 m6 m7 n0 n1 n2 n3 n4 n5 n6 n7
                      go_loopw [13] (fun i wl => ∃ k : Nat, k ≤ r.recs.length ∧ i = .int .i64 k ∧ Hid (ShT W1 wl Xc r g8 c8 g9 c9 r.names r.recs)) (fun i _ => r.recs.length - (intOf i).toNat)
                      case atStart => exact ⟨0, Nat.zero_le _, rfl, HT2⟩
                      case round =>
                        clear HT2
                        obtain ⟨q, hq, rfl, HT⟩ := hrel
                        obtain ⟨m0, m1, m2, m3, m4, m5, m6, m7⟩ := (HX1.out wr HT.out.be).rpc
                        obtain ⟨n0, n1, n2, n3, n4, n5, n6, n7⟩ := HT.out.cells
                        by_cases hp2 : q < r.recs.length
                        · have hqi : (q : Int) < (r.recs.length : Int) := by omega
                          obtain ⟨_, _, e0, _, _, _, hc0⟩ := (HRD.out wr HT.out.be).1
                          cases e0
                          obtain ⟨bn, obn, rfl, hcn⟩ := hc0 (fun e => by rw [e] at hp2; simp at hp2)
                          obtain ⟨x0, x1, x2, x3, x4, x5, x6⟩ := hcn q hp2
                          obtain ⟨⟨p0, p1, p2, p3, p4, p5, p6⟩, _⟩ := HT.out.atR hp2
                          clear hcn hc0
                          generalize r.recs.getD q Sr.none = y0 at *
                          have hne := fun u => sr_neq y0 y0 u
                          rw [show srEq y0 y0 = true from (srEq_iff y0 y0).2 rfl] at hne
                          go_wp2
                          go_quiet (fail)
                          go_wp2
                          go_roundw
                          case rel => exact ⟨q + 1, by omega, by go_num, HT.out.later (below_drewV _ _)⟩
                          case measure => simp [intOf]; omega
                        · have hqi : ¬ (q : Int) < (r.recs.length : Int) := by omega
                          have HBF : Hid (Below w.heap.size w wr) := HB1.out.trans (HT.out.be.mono HB1.out.size)
                          clear HT
                          go_wp2
                          go_ret
                          exact ⟨rfl, HBF.out⟩
end Go.Proofs.YtlnppgjppfkocaaDoor.Xs
