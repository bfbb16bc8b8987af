import Derived.Test.YtlnppgjppfkocaaGreatDoorGq23
import Derived.Test.YtlnppgjppfkocaaGreatDoorGq14
import Derived.Laws.OwnMore
import Derived.Lib.QuoteLoop
import Derived.Shelf.Small.Utf8
/-! The program's reader: bytes. -/
namespace Go.Proofs.YtlnppgjppfkocaaGreatDoor.Xs
open Go.RowKit Plain
set_option linter.unusedVariables false
set_option linter.unusedSimpArgs false

theorem Tryz.infoU8 : (Tryz.prog.info? 5).map (fun i => (i.zero, i.size, i.bytes)) = some (some (.int .u8 0), 1, 1) := by kernel_rfl
theorem made8 (n j : Nat) (h : j < n) : (madeCells #[Value.int .u8 0] n).toList[j]? = some (.int .u8 0) := by
  unfold madeCells
  simp only [Array.toList_map, List.getElem?_map, Array.toList_range]
  rw [List.getElem?_eq_getElem (by simpa using h)]
  have e : j % 1 = 0 := Nat.mod_one j
  simp [e]
/-- What make leaves of a row of bytes. -/
theorem madeB {w : World} {g base t n : Nat} (hn : n ≤ 140737488355328) (ho : w.ownsRow base t 1 (.slice (some ⟨g, 0, none⟩) n n) n (madeCells #[Value.int .u8 0] n).toList) : Own w (.slice (some ⟨g, 0, none⟩) n n) (nats (List.replicate n 0)) (some g) ∧ base ≤ g := by
  rcases ho.2 with ⟨h, _⟩ | ⟨g', cap', cur, e, hg, hh, hle, hm, hs, ht⟩
  · simp at h
  · simp only [Value.slice.injEq, Option.some.injEq, Addr.mk.injEq] at e
    obtain ⟨⟨rfl, _, _⟩, _, rfl⟩ := e
    have hc : ∀ j, j < n → w.cell? ⟨g, j, none⟩ = some (.int .u8 0) := fun j hj => by
      have h1 := made8 n j hj
      rw [← ht, List.getElem?_take_of_lt (by omega)] at h1
      simp only [World.cell?, hh]
      rw [Array.getElem?_toList] at h1
      simpa using h1
    refine ⟨⟨nats_lt _, .inr ⟨g, n, rfl, by rw [nats_len, List.length_replicate], (Array.getElem?_eq_some_iff.mp hh).1, by rw [nats_len, List.length_replicate]; omega, by unfold maxLen; omega, fun j hj => ?_, fun j hj => ?_, fun j hj => ?_⟩⟩, hg⟩
    · simp only [World.frozen?, hh]; simp
    · rw [hc j hj]; rfl
    · rw [nats_len, List.length_replicate] at hj
      rw [hc j hj]
      simp [nats, List.getD_eq_getElem?_getD, hj]
theorem raw_hx {s x : By} (h : s = rawT x) (h1 : 1 < s.length) : ∀ c ∈ s, hxB? c := by
  have hx : x ≠ [] := fun e => by subst e; rw [h] at h1; simp [rawT] at h1
  rw [h]
  unfold rawT
  rw [if_neg hx]
  intro c hc
  obtain ⟨a, _, ha⟩ := List.mem_flatMap.1 hc
  have key : ∀ a : UInt8, ∀ d ∈ hxB a, (48 ≤ d.toNat ∧ d.toNat ≤ 57) ∨ (97 ≤ d.toNat ∧ d.toNat ≤ 102) := all256 (by decide +kernel)
  exact key a c ha
/-- strconv.ParseUint at 16 of a byte. -/
theorem sUintOf (W : World) (t : By) (hl : t.length = 2) (w : World) (hE : ErrAt W) (hb : Below W.heap.size W w) :
    Calls Tryz.prog 121 #[.string (ba t), .int .i64 16, .int .i64 8] w fun e w' => ((∃ n : Int, e = .returned (.tuple #[.int .u64 n, .nilIface]) ∧ 0 ≤ n ∧ n ≤ 255 ∧ ((∀ c ∈ t, hxB? c) → n = hxsV t)) ∨ (¬ (∀ c ∈ t, hxB? c) ∧ ∃ (n : Int) (T : TypeId) (p : Value), e = .returned (.tuple #[.int .u64 n, .iface T p]))) ∧ Below w.heap.size w w' := by
  have hsz : (ba t).size = 2 := hl
  go_enter Tryz.func121, Tryz.ntmps121
  go_wp2_with fail
  refine (iUintOf t hl _).mono ?_
  rintro e w1 ⟨⟨n, rfl, h1, h2, h3⟩ | ⟨hn, n, k, hk, rfl⟩, hb1⟩
  · have H3 := mkW h3
    clear h3
    go_wp2
    go_ret2
    exact ⟨Or.inl ⟨n, rfl, h1, h2, H3.out⟩, hb1⟩
  · have HN := mkW hn
    have HB1 := mkW hb1
    obtain ⟨⟨te, pe, hs⟩, tr, pr, hg⟩ := hE.later (below_on hb hb1)
    clear hn hb1
    rcases hk with rfl | rfl
    · go_wp2_with (go_at_call 133; refine (Any.strconv_toError_range { Tryz.lParse with } _ (ba t) 16 8 _ _ (by rw [hsz]; omega) hg (.inr ⟨_, _, rfl⟩)).mono ?_; rintro e w2 ⟨N, rfl, hN, hx, hb2⟩)
      have hb3 := below_on HB1.out hb2
      clear hN hx hs hg hb2
      go_wp2
      go_ret2
      exact ⟨Or.inr ⟨HN.out, _, _, _, rfl⟩, hb3⟩
    · go_wp2_with (go_at_call 133; refine (toErrF _ (ba t) 16 8 _ _ (by rw [hsz]; omega) hs (.inr ⟨_, _, rfl⟩)).mono ?_; rintro e w2 ⟨N, rfl, hb2⟩)
      have hb3 := below_on HB1.out hb2
      clear hs hg hb2
      go_wp2
      go_ret2
      exact ⟨Or.inr ⟨HN.out, _, _, _, rfl⟩, hb3⟩
theorem set_take {l : By} {k : Nat} {x : UInt8} (h : k < l.length) : (l.set k x).take (k + 1) = l.take k ++ [x] := by
  rw [take_at (by rw [List.length_set]; exact h), List.take_set_of_le (Nat.le_refl k)]
  congr 1
  rw [List.getD_eq_getElem?_getD, List.getElem?_set_self h]; rfl
theorem nats_set (l : By) (k : Nat) {n : Nat} (h : n < 256) : nats (l.set k (UInt8.ofNat n)) = (nats l).set k n := by
  unfold nats
  rw [List.map_set, UInt8.toNat_ofNat_of_lt' (by exact h)]
/-- What bytes answers. -/
def BytP (w : World) (g b : Nat) (ps : List By) (e : Ending) (w' : World) : Prop :=
  (∃ p qs v d r, ps = p :: qs ∧ e = .returned v ∧ (∀ y, p = rawT y → d = y) ∧ d.length ≤ p.length ∧ Own w' v (nats d) r ∧ (∀ x, r = some x → w.heap.size ≤ x) ∧ RdAt w' g b qs ∧ Ch (· = g) w w') ∨
  ((∀ p qs, ps = p :: qs → ∀ y, p ≠ rawT y) ∧ e = .panicked [gaveE] ∧ Ch (· = g) w w')
theorem hxs_two (a b : UInt8) : hxsV [a, b] = hxV a * 16 + hxV b := by simp [hxsV]
theorem sub_two {s : By} {i : Nat} (h : i + 1 < s.length) : (s.take (i + 2)).drop i = [s.getD i 0, s.getD (i + 1) 0] := by
  have h1 : s.drop i = s.getD i 0 :: s.getD (i + 1) 0 :: s.drop (i + 2) := by rw [drop_at (by omega), drop_at h]
  rw [List.drop_take, h1, show i + 2 - i = 2 by omega]; rfl
set_option maxHeartbeats 16000000 in
set_option maxRecDepth 100000 in
theorem rBytesOf (W w : World) (g b : Nat) (ps : List By) (hE : ErrAt W) (h : RdW W w g b ps) :
    Calls Tryz.prog 103 #[.pointer (some ⟨g, 0, none⟩)] w (BytP w g b ps) := by
  obtain ⟨i0, hi0, hi1, hi2, hi3⟩ := info_parts Tryz.infoU8
  have HI : Hid (Tryz.prog.info? 5 = some i0 ∧ i0.zero = some (.int .u8 0) ∧ i0.size = 1 ∧ i0.bytes = 1) := ⟨hi0, hi1, hi2, hi3⟩
  have HR := mkW h
  have HE := mkW hE
  clear h hE hi0 hi1 hi2 hi3
  go_enter Tryz.func103, Tryz.ntmps103
  go_wp2_with (go_at_call 45; refine (rWordOf _ g b ps HR.out.rd).mono ?_)
  rintro e w1 (⟨p, qs, rfl, rfl, hr1, hc1⟩ | ⟨rfl, rfl, rfl⟩)
  · have HR1 := mkW (HR.out.go hr1 hc1)
    have HC1 := mkW hc1
    have hpl : p.length ≤ 281474976710656 := Nat.le_trans (HR.out.len p (by simp)) (by decide)
    have hsz : (ba p).size = p.length := rfl
    clear hr1 hc1
    by_cases hp : p = [45]
    · subst hp
      go_wp2
      go_ret
      exact Or.inl ⟨[45], qs, _, [], none, rfl, rfl, fun y hy => (raw_inj (s := []) (t := y) hy), by simp, Own.nil _, (fun x e => by cases e), HR1.out.rd, HC1.out⟩
    · have hpf : (p == [45]) = false := by rw [beq_eq_false_iff_ne]; exact hp
      obtain ⟨N, hN⟩ : ∃ N, p.length / 2 = N := ⟨_, rfl⟩
      have hN2 : (p.length : Int) / 2 = (N : Int) := by omega
      have hNl : 2 * N ≤ p.length := by omega
      have HNe : Hid (¬ 2 * N + 1 < p.length) := by unfold Hid; omega
      clear hp hN
      go_wp2_with (at_make; refine wpList_make_full _ rfl _ _ 25 rfl w1.heap.size 5 i0 _ 1 Tryz.underlying25 HI.out.1 HI.out.2.1 HI.out.2.2.1 .i64 .i64 _ _ N rfl rfl rfl rfl (by rw [HI.out.2.2.2]; omega) (by unfold maxLen; omega) (by simp) ?_)
      intro w2 ho2 hg2
      have hb2 : Below w1.heap.size w1 w2 := grow_below hg2 (Nat.le_refl _) (by simp)
      obtain ⟨ho3, _⟩ := madeB (by omega) ho2
      have hGg : w1.heap.size ≠ g := by have := HR1.out.rd.glt; omega
      have hGb : w1.heap.size ≠ b := by have := HR1.out.rd.lt; omega
      have hGw : w.heap.size ≤ w1.heap.size := HC1.out.size
      have hGW : W.heap.size ≤ w1.heap.size := HR1.out.bel.size
      have HS2 : Hid (RdW W w2 g b qs ∧ Ch (· = g) w w2 ∧ Own w2 (.slice (some ⟨w1.heap.size, 0, none⟩) N N) (nats (List.replicate N 0)) (some w1.heap.size)) := ⟨HR1.out.later hb2, HC1.out.more hb2, ho3⟩
      obtain ⟨G, hG⟩ : ∃ G, w1.heap.size = G := ⟨_, rfl⟩
      rw [hG] at HS2 hGg hGb hGw hGW ⊢
      clear ho2 hg2 hb2 ho3 hG
      go_wp2
      go_loopw [18] (fun i wl => ∃ (k : Nat) (l : By), i = .int .i64 k ∧ k ≤ N ∧ l.length = N ∧ Hid (RdB p (2 * k) (l.take k)) ∧ Hid (RdW W wl g b qs ∧ Ch (· = g) w wl ∧ Own wl (.slice (some ⟨G, 0, none⟩) N N) (nats l) (some G))) (fun i _ => N - (intOf i).toNat)
      case atStart => exact ⟨0, List.replicate N 0, rfl, Nat.zero_le _, by simp, RdB.start p, HS2.out⟩
      case round =>
        obtain ⟨k, l, rfl, hk, hl, HB, HS⟩ := hrel
        by_cases hkn : k < N
        · have hki : (k : Int) < (N : Int) := by omega
          have hsl : ∀ u, (Instr.slice 9 (.string (ba p)) (some (.int .i64 (2 * (k : Int)))) (some (.int .i64 (2 * (k : Int) + 2))) none).run Tryz.prog u = .ok (.string (ba [p.getD (2 * k) 0, p.getD (2 * k + 1) 0])) u := fun u => by
            rw [run_slice_string u 9 (ba p) .i64 .i64 (2 * (k : Int)) (2 * (k : Int) + 2) Tryz.underlying9 (by omega) (by omega) (by rw [hsz]; omega)]
            rw [show (2 * (k : Int)).toNat = 2 * k by omega, show (2 * (k : Int) + 2).toNat = 2 * k + 2 by omega, ba_sub, sub_two (by omega)]
          have HNX : Hid (RdB p (2 * k + 2) (l.take k ++ [UInt8.ofNat (hxV (p.getD (2 * k) 0) * 16 + hxV (p.getD (2 * k + 1) 0))])) := HB.out.next (by omega)
          have HHX : Hid (¬ (∀ c ∈ [p.getD (2 * k) 0, p.getD (2 * k + 1) 0], hxB? c) → ∀ y, p ≠ rawT y) := fun hn y hy => hn fun c hc => by
            have h0 := raw_hx hy (by omega)
            rcases List.mem_cons.1 hc with e | hc
            · rw [e, List.getD_eq_getElem?_getD, List.getElem?_eq_getElem (show 2 * k < p.length by omega)]; exact h0 _ (List.getElem_mem _)
            · rw [List.mem_singleton.1 hc, List.getD_eq_getElem?_getD, List.getElem?_eq_getElem (show 2 * k + 1 < p.length by omega)]; exact h0 _ (List.getElem_mem _)
          have HVV := mkW (hxs_two (p.getD (2 * k) 0) (p.getD (2 * k + 1) 0))
          have HPU : Hid (∀ u, Below W.heap.size W u → _) := fun u hu => sUintOf W [p.getD (2 * k) 0, p.getD (2 * k + 1) 0] rfl u HE.out hu
          generalize [p.getD (2 * k) 0, p.getD (2 * k + 1) 0] = t at *
          have hw1 := HS.out.1.bel
          go_wp2_with (go_at_call 121; refine (HPU.out _ hw1).mono ?_)
          rintro e w3 ⟨⟨n, rfl, h1, h2, h3⟩ | ⟨hn, n, T, pv, rfl⟩, hb3⟩
          · have H3 := mkW h3
            have HS3 : Hid (RdW W w3 g b qs ∧ Ch (· = g) w w3 ∧ Own w3 (.slice (some ⟨G, 0, none⟩) N N) (nats l) (some G)) := ⟨HS.out.1.later hb3, HS.out.2.1.more hb3, HS.out.2.2.later hb3⟩
            obtain ⟨g', e1, e2, hfz, ⟨u, hu⟩, hput⟩ := own_put HS3.out.2.2 hkn n.toNat (by omega)
            cases e1
            rw [show ((n.toNat : Nat) : Int) = n by omega] at hput
            have HP := mkW hput
            clear hput e2 h3 hb3 HS HPU hw1 hsl
            go_wp2
            go_roundw
            case rel =>
              refine ⟨k + 1, l.set k (UInt8.ofNat n.toNat), by go_num, by omega, by rw [List.length_set]; exact hl, ?_, ?_⟩
              · by_cases hx : ∀ c ∈ t, hxB? c
                · have e := H3.out hx
                  rw [HVV.out] at e
                  have := HNX.out
                  rw [show hxV (p.getD (2 * k) 0) * 16 + hxV (p.getD (2 * k + 1) 0) = n.toNat by omega, ← set_take (by omega)] at this
                  exact this
                · exact fun y hy => absurd hy (HHX.out hx y)
              · refine ⟨HS3.out.1.ch (S := (· = G)) ((Ch.refl _ _).set k _ rfl) (fun j e => by rw [e]; exact hGW) hGg.symm hGb.symm, HS3.out.2.1.grown (grow_setCells _ G k [_]) (fun j e => by cases e; exact .inr hGw), ?_⟩
                have := HP.out
                rw [nats_set l k (by omega : n.toNat < 256)]
                exact this
            case measure => simp [intOf]; omega
          · have HHN := mkW (HHX.out hn)
            clear hn
            have HC3 := mkW (HS.out.2.1.more hb3)
            clear hb3 HS hw1 hsl
            go_wp2_with (go_at_call 27; refine (gaveOf _).mono ?_; rintro e w4 ⟨rfl, rfl⟩)
            exact ⟨by trivial, Or.inr ⟨fun p' qs' e => by cases e; exact HHN.out, rfl, HC3.out⟩⟩
        · have hkk : k = N := by omega
          subst hkk
          go_wp2
          go_ret
          exact Or.inl ⟨p, qs, _, l, some G, rfl, rfl, (fun y hy => by
            have := HB.out.done HNe.out y hy
            rwa [List.take_of_length_le (by omega)] at this), by omega, HS.out.2.2, (fun x e => by cases e; exact hGw), HS.out.1.rd, HS.out.2.1⟩
  · exact ⟨by trivial, Or.inr ⟨fun p qs e => (by cases e), rfl, Ch.refl _ _⟩⟩
end Go.Proofs.YtlnppgjppfkocaaGreatDoor.Xs

/-! strconv's unquoting: UnquoteChar, right on all that quoting writes. -/
namespace Go.Proofs.YtlnppgjppfkocaaGreatDoor.Xs
open Go.RowKit Plain
set_option linter.unusedVariables false
set_option linter.unusedSimpArgs false

theorem slice_from (t : By) (i : Nat) (h : i ≤ t.length) (u : World) : (Instr.slice 9 (.string (ba t)) (some (.int .i64 (i : Int))) none none).run Tryz.prog u = .ok (.string (ba (t.drop i))) u := by
  have hsz : (ba t).size = t.length := rfl
  rw [run_slice_string_from_if u 9 (ba t) .i64 (i : Int) Tryz.underlying9, if_pos (by rw [hsz]; omega)]
  rw [show ((i : Int)).toNat = i by omega, hsz, ba_sub, List.take_length]
theorem slice_to (t : By) (i : Nat) (h : i ≤ t.length) (u : World) : (Instr.slice 9 (.string (ba t)) none (some (.int .i64 (i : Int))) none).run Tryz.prog u = .ok (.string (ba (t.take i))) u := by
  have hsz : (ba t).size = t.length := rfl
  rw [run_slice_string_to_if u 9 (ba t) .i64 (i : Int) Tryz.underlying9, if_pos (by rw [hsz]; omega)]
  rw [show ((i : Int)).toNat = i by omega, ba_sub]; rfl
/-- What unhex answers. -/
def UnhP (c : UInt8) (w : World) (e : Ending) (w' : World) : Prop := (∃ (x : Int) (ok : Bool), e = .returned (.tuple #[.int .i32 x, .bool ok]) ∧ 0 ≤ x ∧ x ≤ 15 ∧ (hxB? c → ok = true ∧ x = hxV c)) ∧ w' = w
set_option maxRecDepth 100000 in
theorem unhexOf (c : UInt8) (w : World) : Calls Tryz.prog 159 #[.int .u8 (c.toNat : Int)] w (UnhP c w) := by
  have hc := c.toNat_lt
  have HX : Hid (hxB? c → (48 ≤ c.toNat ∧ c.toNat ≤ 57 ∧ (hxV c : Int) = c.toNat - 48) ∨ (97 ≤ c.toNat ∧ c.toNat ≤ 102 ∧ (hxV c : Int) = c.toNat - 87)) := fun h => by
    rcases h with h | h
    · exact .inl ⟨h.1, h.2, by unfold hxV; rw [if_neg (by omega), if_pos h]; omega⟩
    · exact .inr ⟨h.1, h.2, by unfold hxV; rw [if_pos h]; omega⟩
  by_cases h1 : 48 ≤ c.toNat ∧ c.toNat ≤ 57
  · obtain ⟨a1, a2⟩ := h1
    go_enter Tryz.func159, Tryz.ntmps159
    go_wp2
    go_ret2
    exact ⟨⟨_, _, rfl, by omega, by omega, fun hx => ⟨rfl, by have := HX.out hx; omega⟩⟩, rfl⟩
  · by_cases h2 : 97 ≤ c.toNat ∧ c.toNat ≤ 102
    · obtain ⟨a1, a2⟩ := h2
      go_enter Tryz.func159, Tryz.ntmps159
      go_wp2
      go_ret2
      exact ⟨⟨_, _, rfl, by omega, by omega, fun hx => ⟨rfl, by have := HX.out hx; omega⟩⟩, rfl⟩
    · have HN : Hid (¬ hxB? c) := fun hx => by rcases hx with hx | hx <;> omega
      by_cases h3 : 65 ≤ c.toNat ∧ c.toNat ≤ 70
      · obtain ⟨a1, a2⟩ := h3
        go_enter Tryz.func159, Tryz.ntmps159
        go_wp2
        go_ret2
        exact ⟨⟨_, _, rfl, by omega, by omega, fun hx => absurd hx HN.out⟩, rfl⟩
      · go_enter Tryz.func159, Tryz.ntmps159
        go_wp2
        all_goals (go_ret2; exact ⟨⟨_, _, rfl, by omega, by omega, fun hx => absurd hx HN.out⟩, rfl⟩)
set_option maxHeartbeats 1000000 in
set_option maxRecDepth 100000 in
theorem indexOf (s : By) (c : Int) (w : World) : Calls Tryz.prog 148 #[.string (ba s), .int .u8 c] w fun e w' => e = .returned (.int .i64 (Lib.indexByte s c.toNat.toUInt8)) ∧ w' = w := by
  go_enter Tryz.func148, Tryz.ntmps148
  go_wp2
  rw [run_callFunc_extern Tryz.func157 (by kernel_rfl) (by kernel_rfl) (by kernel_rfl) (e := Extern.BytealgIndexByte.indexByte) (by kernel_rfl), Lib.run_indexByteString]
  simp only [Result.andThen]
  rw [Oper.upon_value]
  go_wp2
  go_ret
  exact ⟨rfl, rfl⟩
theorem containsOf (s : By) (c : Int) (w : World) : Calls Tryz.prog 149 #[.string (ba s), .int .u8 c] w fun e w' => e = .returned (.bool (Lib.indexByte s c.toNat.toUInt8 != -1)) ∧ w' = w := by
  have h := indexOf s c
  generalize Lib.indexByte s c.toNat.toUInt8 = z at *
  go_enter Tryz.func149, Tryz.ntmps149
  go_wp2_with (go_at_call 148; refine (h _).mono ?_; rintro e w' ⟨rfl, rfl⟩)
  go_ret
  exact ⟨rfl, rfl⟩
end Go.Proofs.YtlnppgjppfkocaaGreatDoor.Xs
