import Derived.Test.YtlnppgjppfkocaaGreatDoorGq05
import Derived.Test.YtlnppgjppfkocaaGreatDoorGq13
import Derived.Test.YtlnppgjppfkocaaGreatDoorGq12
import Derived.Test.YtlnppgjppfkocaaGreatDoorGq07
import Derived.Laws.ResultCell
import Derived.Test.YtlnppgjppfkocaaGreatDoorGq11
/-! Lines: the document's parts. -/
namespace Go.Proofs.YtlnppgjppfkocaaGreatDoor.Xs
open Go.RowKit Plain
set_option linter.unusedVariables false
set_option linter.unusedSimpArgs false

def strs (l : List By) : List Value := l.map fun x => .string (ba x)
theorem strs_len (l : List By) : (strs l).length = l.length := by simp [strs]
theorem strs_app (l k : List By) : strs (l ++ k) = strs l ++ strs k := by simp [strs]
theorem strs_get {l : List By} {j : Nat} (h : j < l.length) : (strs l)[j]? = some (.string (ba (l.getD j []))) := by simp [strs, h]
/-- A row of texts that was made since the world W. -/
def Gt (W w : World) (v : Value) (l : List By) : Prop := ∃ r, OwnV w v (strs l) r ∧ (∀ g, r = some g → W.heap.size ≤ g) ∧ Below W.heap.size W w
theorem Gt.nil {W w : World} (h : Below W.heap.size W w) : Gt W w (.slice none 0 0) [] := ⟨none, OwnV.nil w, by simp, h⟩
theorem Gt.below {W w : World} {v : Value} {l : List By} (h : Gt W w v l) : Below W.heap.size W w := by
  obtain ⟨r, _, _, hb⟩ := h; exact hb
theorem ownV_later {w w' : World} {v : Value} {vs : List Value} {r : Option Nat} (h : OwnV w v vs r) (hb : Below w.heap.size w w') : OwnV w' v vs r := by
  cases r with
  | none => exact h.kept (below_grow hb none) (.inl rfl)
  | some g => exact h.kept (below_grow hb none) (.inr (by simp))
theorem Gt.later {W w w' : World} {v : Value} {l : List By} (h : Gt W w v l) (hb : Below w.heap.size w w') : Gt W w' v l := by
  obtain ⟨r, h1, h2, h3⟩ := h
  exact ⟨r, ownV_later h1 hb, h2, below_on h3 hb⟩
theorem Gt.slice {W w : World} {v : Value} {l : List By} (h : Gt W w v l) : ∃ a cap, v = .slice a l.length cap := by
  obtain ⟨r, h1, _, _⟩ := h
  rcases h1 with ⟨e, e2, _⟩ | ⟨g, cap, _, e, _⟩
  · have : l.length = 0 := by have := congrArg List.length e2; rwa [strs_len] at this
    exact ⟨none, 0, by rw [e, this]⟩
  · exact ⟨_, cap, by rw [e, strs_len]⟩
theorem Gt.reads {W w : World} {v : Value} {l : List By} (h : Gt W w v l) (hl : l.length ≤ 8796093022000) (hx : ∀ x ∈ l, x.length ≤ 1125899906842624) : NmsAt w v l := by
  obtain ⟨r, h1, _, _⟩ := h
  rcases h1 with ⟨e, e2, _⟩ | ⟨g, cap, _, e, _, k1, _, _, _, hc⟩
  · have h0 : l = [] := List.length_eq_zero_iff.1 (by have := congrArg List.length e2; rwa [strs_len] at this)
    subst h0
    exact ⟨none, 0, e, Nat.le_refl _, Nat.zero_le _, by simp, fun h => absurd rfl h⟩
  · refine ⟨_, cap, by rw [e, strs_len], by rw [strs_len] at k1; exact k1, hl, hx, fun _ => ⟨g, 0, rfl, fun j hj => ?_⟩⟩
    rw [Nat.zero_add, hc j (by rw [strs_len]; exact hj), strs_get hj]
theorem wpList_append_gt {ops : Array Oper} {rest : List Oper} {o : Oper} {a : Act} {Q : Exit → Act → World → Prop} {W : World} (w w1 : World) (hgd : o.guard = none) (s x : Operand)
    (ho : o.op = .call { callee := .builtin .append, args := #[s, x], argTypes := #[43, 43] }) (v xv : Value) (l : List By) (y : By)
    (hs : a.eval s = v) (hx : a.eval x = xv) (h : Gt W w v l) (hb1 : Below w.heap.size w w1) (hsrc : Src Tryz.prog 1 43 xv [Value.string (ba y)].length [Value.string (ba y)] w1) (hlen : l.length ≤ 8796093022000)
    (hK : ∀ v' w', Gt W w' v' (l ++ [y]) → wpList Tryz.prog ops Q rest (a.put o.dst v') w') : wpList Tryz.prog ops Q (o :: rest) a w1 := by
  obtain ⟨r, h1, h2, h3⟩ := h
  refine wpList_append_txs w1 hgd s x ho v xv (strs l) [.string (ba y)] r hs hx (ownV_later h1 hb1) hsrc (by rw [strs_len]; simp; omega) (.inr (by simp)) ?_
  intro v' w' g ho' hg' hr'
  refine hK v' w' ⟨some g, by rw [strs_app]; exact ho', fun g' e => ?_, ?_⟩
  · cases e
    rcases hr' with k | k
    · exact h2 g k.symm
    · rw [k]; exact Nat.le_trans h3.size hb1.size
  · exact (h3.trans (hb1.mono h3.size)).trans (grow_below hg' (Nat.le_trans h3.size hb1.size) h2)

/-! ### Parts, plainly -/
def Prt (s : By) (i : Nat) (q : Bool) (fr : Nat) (l : List By) : Prop := cutL false [] s = l ++ cutL q ((s.take i).drop fr) (s.drop i)
theorem Prt.start (s : By) : Prt s 0 false 0 [] := by unfold Prt; simp
theorem cur_snoc {s : By} {i fr : Nat} (h : i < s.length) (hf : fr ≤ i) : (s.take (i + 1)).drop fr = (s.take i).drop fr ++ [s.getD i 0] := by
  rw [take_at h, List.drop_append_of_le_length (by rw [List.length_take]; omega)]
theorem drop_at {s : By} {i : Nat} (h : i < s.length) : s.drop i = s.getD i 0 :: s.drop (i + 1) := by
  rw [List.drop_eq_getElem_cons h, List.getD_eq_getElem?_getD, List.getElem?_eq_getElem h]; rfl
theorem Prt.back {s : By} {i fr : Nat} {l : List By} (h : Prt s i true fr l) (hi : i < s.length) (hf : fr ≤ i) (hc : s.getD i 0 = 92) : Prt s (i + 2) true fr l := by
  unfold Prt at *
  rw [h, drop_at hi, hc]
  by_cases h1 : i + 1 < s.length
  · rw [drop_at h1, cut_esc, cur_snoc h1 (by omega), cur_snoc hi hf, hc]
    simp
  · have e1 : s.drop (i + 1) = [] := List.drop_eq_nil_of_le (by omega)
    have e2 : s.drop (i + 2) = [] := List.drop_eq_nil_of_le (by omega)
    have e3 : s.take (i + 2) = s.take (i + 1) := by rw [List.take_of_length_le (by omega), List.take_of_length_le (by omega)]
    rw [e1, e2, e3, cur_snoc hi hf, hc, cut_one, if_pos (.inr (.inl rfl)), cut_nil]
theorem Prt.quote {s : By} {i fr : Nat} {q : Bool} {l : List By} (h : Prt s i q fr l) (hi : i < s.length) (hf : fr ≤ i) (hc : s.getD i 0 = 34) : Prt s (i + 1) (!q) fr l := by
  unfold Prt at *
  rw [h, drop_at hi, cur_snoc hi hf, hc]
  cases q
  · rw [cut_quote]; rfl
  · rw [cut_unquote]; rfl
theorem Prt.blank {s : By} {i fr : Nat} {l : List By} (h : Prt s i false fr l) (hi : i < s.length) (hc : s.getD i 0 = 32) : Prt s (i + 1) false (i + 1) (l ++ [(s.take i).drop fr]) := by
  unfold Prt at *
  rw [h, drop_at hi, hc, cut_blank]
  have e : (s.take (i + 1)).drop (i + 1) = [] := List.drop_eq_nil_of_le (by rw [List.length_take]; omega)
  rw [e]
  simp
theorem Prt.other {s : By} {i fr : Nat} {q : Bool} {l : List By} (h : Prt s i q fr l) (hi : i < s.length) (hf : fr ≤ i) (h34 : s.getD i 0 ≠ 34) (h92 : q = true → s.getD i 0 ≠ 92) (h32 : q = false → s.getD i 0 ≠ 32) : Prt s (i + 1) q fr l := by
  unfold Prt at *
  rw [h, drop_at hi, cur_snoc hi hf]
  cases q
  · rw [cut_out _ _ _ h34 (h32 rfl)]
  · rw [cut_in _ _ _ h34 (h92 rfl)]
theorem Prt.done {s : By} {i fr : Nat} {q : Bool} {l : List By} (h : Prt s i q fr l) (hi : s.length ≤ i) : cutL false [] s = l ++ [s.drop fr] := by
  unfold Prt at h
  rw [h, List.drop_eq_nil_of_le hi, List.take_of_length_le hi, cut_nil]
theorem ba_sub {s : By} {i j : Nat} : (ba s).extract i j = ba ((s.take j).drop i) := by
  apply ByteArray.ext
  rw [ByteArray.data_extract]
  apply Array.ext'
  rw [Array.toList_extract]
  show (s.drop i).take (j - i) = (s.take j).drop i
  rw [List.drop_take]
end Go.Proofs.YtlnppgjppfkocaaGreatDoor.Xs

/-! Lines: the document's parts, walked. -/
namespace Go.Proofs.YtlnppgjppfkocaaGreatDoor.Xs
open Go.RowKit Plain
set_option linter.unusedVariables false
set_option linter.unusedSimpArgs false

theorem cut_len (s : By) : ∀ x ∈ cutL false [] s, x.length ≤ s.length := by
  have key : ∀ (n : Nat) (s : By) (q : Bool) (cur : By), s.length ≤ n → ∀ x ∈ cutL q cur s, x.length ≤ cur.length + s.length := by
    intro n
    induction n with
    | zero =>
      intro s q cur hs x hx
      have : s = [] := List.length_eq_zero_iff.1 (by omega)
      subst this
      rw [cut_nil, List.mem_singleton] at hx
      rw [hx]; omega
    | succ n ih =>
      intro s q cur hs x hx
      match s, hs, hx with
      | [], hs, hx => rw [cut_nil, List.mem_singleton] at hx; rw [hx]; omega
      | [c], hs, hx =>
        rw [cut_one] at hx
        split at hx
        · rw [List.mem_singleton] at hx; rw [hx]; simp
        · simp at hx; rcases hx with e | e <;> rw [e] <;> simp
      | c :: d :: r, hs, hx =>
        simp only [List.length_cons] at hs ⊢
        rw [cutL] at hx
        split at hx
        · have := ih r q (cur ++ [c, d]) (by omega) x hx; simp at this; omega
        · split at hx
          · have := ih (d :: r) (!q) (cur ++ [c]) (by simp; omega) x hx; simp at this; omega
          · split at hx
            · rcases List.mem_cons.1 hx with e | hx
              · rw [e]; omega
              · have := ih (d :: r) false [] (by simp; omega) x hx; simp at this; omega
            · have := ih (d :: r) q (cur ++ [c]) (by simp; omega) x hx; simp at this; omega
  intro x hx
  have := key s.length s false [] (Nat.le_refl _) x hx
  simpa using this

set_option maxHeartbeats 8000000 in
set_option maxRecDepth 100000 in
theorem rpartsOf (s : By) (hs : s.length ≤ 100000) (w : World) :
    Calls Tryz.prog 53 #[.string (ba s)] w fun e w' => ∃ v, e = .returned v ∧ NmsAt w' v (cutL false [] s) ∧ (cutL false [] s).length ≤ s.length + 1 ∧ Below w.heap.size w w' := by
  have hsz : (ba s).size = s.length := rfl
  have HCL := cut_len s
  have HCH : Hid (∀ x ∈ cutL false [] s, x.length ≤ s.length) := HCL
  clear HCL
  go_enter Tryz.func53, Tryz.ntmps53
  go_wp2
  go_loopw [3, 4, 5, 6] (fun v b f i wl => ∃ (k : Nat) (q : Bool) (fr : Nat) (l : List By) (a : Option Addr) (cap : Nat), k ≤ s.length + 1 ∧ fr ≤ k ∧ fr ≤ s.length ∧ l.length ≤ fr ∧ i = .int .i64 k ∧ b = .bool q ∧ f = .int .i64 fr ∧ v = .slice a l.length cap ∧ Hid (Prt s k q fr l) ∧ Hid (Gt w wl (.slice a l.length cap) l)) (fun _ _ _ i _ => s.length + 2 - (intOf i).toNat)
  case atStart => exact ⟨0, false, 0, [], none, 0, Nat.zero_le _, Nat.le_refl _, Nat.zero_le _, Nat.le_refl _, rfl, rfl, rfl, rfl, Prt.start s, Gt.nil (Below.refl _ _)⟩
  case round =>
    obtain ⟨k, q, fr, l, a, cap, hk, hf, hfs, hl, rfl, rfl, rfl, rfl, HP, HG⟩ := hrel
    by_cases hp : k < s.length
    · have hki : (k : Int) < (s.length : Int) := by omega
      have hkb : k < (ba s).size := hp
      have hbg := ba_get hkb
      obtain ⟨z, hz⟩ : ∃ z : Int, (((ba s)[k]'hkb).toNat : Int) = z := ⟨_, rfl⟩
      have HZ : Hid (z = ((s.getD k 0).toNat : Int)) := by unfold Hid; rw [← hz, hbg]
      clear hbg
      have HNE : Hid (∀ c : UInt8, s.getD k 0 ≠ c → (z == (c.toNat : Int)) = false) := fun c h => by
        rw [beq_eq_false_iff_ne, HZ.out]
        exact fun e => h (UInt8.toNat_inj.1 (by omega))
      cases q with
      | true =>
        by_cases c92 : s.getD k 0 = 92
        · have h92 : (z == 92) = true := by rw [HZ.out, c92]; rfl
          have HP2 : Hid (Prt s (k + 2) true fr l) := HP.out.back hp hf c92
          clear c92 HNE
          go_wp2
          go_roundw
          case rel => exact ⟨k + 2, true, fr, l, a, cap, by omega, by omega, hfs, hl, congrArg (Value.int .i64) (by omega), rfl, rfl, rfl, HP2, HG⟩
          case measure => simp [intOf]; omega
        · have h92 : (z == 92) = false := HNE.out 92 c92
          by_cases c34 : s.getD k 0 = 34
          · have h34 : (z == 34) = true := by rw [HZ.out, c34]; rfl
            have HP2 : Hid (Prt s (k + 1) false fr l) := HP.out.quote hp hf c34
            clear c34 c92 HNE
            go_wp2
            go_roundw
            case rel => exact ⟨k + 1, false, fr, l, a, cap, by omega, by omega, hfs, hl, by go_num, rfl, rfl, rfl, HP2, HG⟩
            case measure => simp [intOf]; omega
          · have h34 : (z == 34) = false := HNE.out 34 c34
            have HP2 : Hid (Prt s (k + 1) true fr l) := HP.out.other hp hf c34 (fun _ => c92) (fun e => by cases e)
            clear c34 c92 HNE
            cases h32 : (z == 32) with
            | false =>
              go_wp2
              go_roundw
              case rel => exact ⟨k + 1, true, fr, l, a, cap, by omega, by omega, hfs, hl, by go_num, rfl, rfl, rfl, HP2, HG⟩
              case measure => simp [intOf]; omega
            | true =>
              go_wp2
              go_roundw
              case rel => exact ⟨k + 1, true, fr, l, a, cap, by omega, by omega, hfs, hl, by go_num, rfl, rfl, rfl, HP2, HG⟩
              case measure => simp [intOf]; omega
      | false =>
        by_cases c34 : s.getD k 0 = 34
        · have h34 : (z == 34) = true := by rw [HZ.out, c34]; rfl
          have HP2 : Hid (Prt s (k + 1) true fr l) := HP.out.quote hp hf c34
          clear c34 HNE
          go_wp2
          go_roundw
          case rel => exact ⟨k + 1, true, fr, l, a, cap, by omega, by omega, hfs, hl, by go_num, rfl, rfl, rfl, HP2, HG⟩
          case measure => simp [intOf]; omega
        · have h34 : (z == 34) = false := HNE.out 34 c34
          by_cases c32 : s.getD k 0 = 32
          · have h32 : (z == 32) = true := by rw [HZ.out, c32]; rfl
            have HP2 : Hid (Prt s (k + 1) false (k + 1) (l ++ [(s.take k).drop fr])) := HP.out.blank hp c32
            have hsl : ∀ u, (Instr.slice 9 (.string (ba s)) (some (.int .i64 (fr : Int))) (some (.int .i64 (k : Int))) none).run Tryz.prog u = .ok (.string (ba ((s.take k).drop fr))) u := fun u => by
              rw [run_slice_string u 9 (ba s) .i64 .i64 (fr : Int) (k : Int) Tryz.underlying9 (by omega) (by omega) (by rw [hsz]; omega)]
              rw [show ((fr : Int)).toNat = fr by omega, show ((k : Int)).toNat = k by omega, ba_sub]
            generalize (s.take k).drop fr = y at *
            clear c34 c32 HNE
            go_wp2_with (at_builtin; refine wpList_append_gt wr _ rfl _ _ rfl _ _ l y rfl rfl HG.out ?hBel ?hSrc ?hLen ?_)
            case hBel => exact (Below.refl _ _).alloc (Nat.le_refl _) _
            case hSrc => exact srcTx wr (ba y)
            case hLen => omega
            intro v' w3 hg3
            obtain ⟨a3, c3, rfl⟩ := hg3.slice
            have HG3 : Hid (Gt w w3 (.slice a3 (l ++ [y]).length c3) (l ++ [y])) := hg3
            have hl3 : (l ++ [y]).length = l.length + 1 := by simp
            generalize l ++ [y] = l3 at *
            obtain ⟨n3, hn3⟩ : ∃ n, l3.length = n := ⟨_, rfl⟩
            rw [hn3] at hl3 ⊢
            clear hg3
            go_wp2
            go_roundw
            case rel => exact ⟨k + 1, false, k + 1, l3, a3, c3, by omega, by omega, by omega, by omega, by go_num, rfl, by go_num, by (first | rw [hn3, hl3] | rw [hn3]), HP2, by rw [hn3]; rw [hn3] at HG3; exact HG3⟩
            case measure => simp [intOf]; omega
          · have h32 : (z == 32) = false := HNE.out 32 c32
            have HP2 : Hid (Prt s (k + 1) false fr l) := HP.out.other hp hf c34 (fun e => by cases e) (fun _ => c32)
            clear c34 c32 HNE
            go_wp2
            go_roundw
            case rel => exact ⟨k + 1, false, fr, l, a, cap, by omega, by omega, hfs, hl, by go_num, rfl, rfl, rfl, HP2, HG⟩
            case measure => simp [intOf]; omega
    · have hki : ¬ (k : Int) < (s.length : Int) := by omega
      have HD : Hid (cutL false [] s = l ++ [s.drop fr]) := HP.out.done (by omega)
      have hsl : ∀ u, (Instr.slice 9 (.string (ba s)) (some (.int .i64 (fr : Int))) none none).run Tryz.prog u = .ok (.string (ba (s.drop fr))) u := fun u => by
        rw [run_slice_string_l u (s := ba s) (P := Tryz.prog) (t := 9) Tryz.underlying9 .i64 (fr : Int) (by omega) (by rw [hsz]; omega)]
        rw [show ((fr : Int)).toNat = fr by omega, hsz, ba_sub, List.take_length]
      generalize s.drop fr = y at *
      go_wp2_with (at_builtin; refine wpList_append_gt wr _ rfl _ _ rfl _ _ l y rfl rfl HG.out ?hBel ?hSrc ?hLen ?_)
      case hBel => exact (Below.refl _ _).alloc (Nat.le_refl _) _
      case hSrc => exact srcTx wr (ba y)
      case hLen => omega
      intro v' w3 hg3
      have HG3 : Hid (Gt w w3 v' (l ++ [y])) := hg3
      clear hg3
      go_wp2
      go_ret
      rw [HD.out]
      refine ⟨_, rfl, ?_, by simp; omega, HG3.out.below⟩
      exact HG3.out.reads (by simp; omega) (fun x hx => by have := HCH.out x (by rw [HD.out]; exact hx); omega)
end Go.Proofs.YtlnppgjppfkocaaGreatDoor.Xs

/-! Lines: boxes of a call's own; the document's readRequest. -/
namespace Go.Proofs.YtlnppgjppfkocaaGreatDoor.Xs
open Go.RowKit Plain
set_option linter.unusedVariables false
set_option linter.unusedSimpArgs false

/-- The cells of a request. -/
def rqLst (r : Rq) : List Value := [.int .u32 r.id, .int .i64 r.op, .string (ba r.topic), .string (ba r.key), .string (ba r.value), .int .i64 r.offset, .int .i64 r.number, .int .i64 r.pid, .int .i64 r.seq]
theorem Bx.rq {W u : World} {X : Nat} {r : Rq} (h : Bx W u X (rqLst r)) : RqAt u X 0 r :=
  ⟨h.c 0 (by simp [rqLst]), h.c 1 (by simp [rqLst]), h.c 2 (by simp [rqLst]), h.c 3 (by simp [rqLst]), h.c 4 (by simp [rqLst]), h.c 5 (by simp [rqLst]), h.c 6 (by simp [rqLst]), h.c 7 (by simp [rqLst]), h.c 8 (by simp [rqLst])⟩
/-- Within readRequest: the box of the request, the box of the answer. -/
structure RqS (W u : World) (X R : Nat) (r : Rq) : Prop where
  x : Bx W u X (rqLst r)
  r : Bx W u R (rqLst Rq.zero)
  ne : R ≠ X
  be : Below W.heap.size W u
theorem RqS.later {W u u' : World} {X R : Nat} {r : Rq} (h : RqS W u X R r) (hb : Below u.heap.size u u') : RqS W u' X R r :=
  ⟨h.x.later hb, h.r.later hb, h.ne, below_on h.be hb⟩
theorem RqS.put {W u : World} {X R : Nat} {r r' : Rq} (h : RqS W u X R r) {i : Nat} (hi : i < 9) (v : Value) (e : rqLst r' = (rqLst r).set i v) : RqS W (u.setCell ⟨X, i, none⟩ v) X R r' :=
  ⟨h.x.set hi v e, h.r.other h.ne i v, h.ne, below_set h.be h.x.ge i v⟩
theorem results_cell1 {fn : Func} {p : Tmp} {ty : TypeId} (h : fn.results = #[.cell p ty]) (tmps : Array Value) (P : Program) (w : World) :
    (results fn tmps).run P w = ((asAddr (tmps.getD p undef)).run P w).andThen fun a w₁ => (loadVar ty a).run P w₁ := by
  simp only [results, h]
  simp [Sem.run_bind, Result.andThen]
/-- A request's cells, stored one by one. -/
abbrev rqPut (u : World) (R o : Nat) (r : Rq) : World := ((((((((u.setCell ⟨R, o, none⟩ (.int .u32 r.id)).setCell ⟨R, o + 1, none⟩ (.int .i64 r.op)).setCell ⟨R, o + 2, none⟩ (.string (ba r.topic))).setCell ⟨R, o + 3, none⟩ (.string (ba r.key))).setCell ⟨R, o + 4, none⟩ (.string (ba r.value))).setCell ⟨R, o + 5, none⟩ (.int .i64 r.offset)).setCell ⟨R, o + 6, none⟩ (.int .i64 r.number)).setCell ⟨R, o + 7, none⟩ (.int .i64 r.pid)).setCell ⟨R, o + 8, none⟩ (.int .i64 r.seq)
theorem Bx.putRq {W u : World} {R : Nat} {r0 : Rq} (h : Bx W u R (rqLst r0)) (hb : Below W.heap.size W u) (r : Rq) : Bx W (rqPut u R 0 r) R (rqLst r) ∧ Below W.heap.size W (rqPut u R 0 r) := by
  refine ⟨?_, ?_⟩
  · exact ((((((((h.set (i := 0) (by simp [rqLst]) _ rfl).set (i := 1) (by simp [rqLst]) _ rfl).set (i := 2) (by simp [rqLst]) _ rfl).set (i := 3) (by simp [rqLst]) _ rfl).set (i := 4) (by simp [rqLst]) _ rfl).set (i := 5) (by simp [rqLst]) _ rfl).set (i := 6) (by simp [rqLst]) _ rfl).set (i := 7) (by simp [rqLst]) _ rfl).set (i := 8) (by simp [rqLst]) _ rfl
  · have g := h.ge
    exact below_set (below_set (below_set (below_set (below_set (below_set (below_set (below_set (below_set hb g _ _) g _ _) g _ _) g _ _) g _ _) g _ _) g _ _) g _ _) g _ _
/-- What the first loop has found: the operation whose word the part is. -/
structure OpF (s : By) (k : Nat) (o : Int) : Prop where
  lo : 0 ≤ o
  hi : o ≤ 15
  is : ∀ j : Nat, 1 ≤ j → j < k → opT j = s → o = j
theorem OpF.start (s : By) : OpF s 1 0 := ⟨by omega, by omega, fun j h1 h2 => by omega⟩
theorem OpF.hit {s : By} {k : Nat} {o : Int} (h : OpF s k o) (hk : 1 ≤ k) (hk2 : k ≤ 15) (e : opT k = s) : OpF s (k + 1) k :=
  ⟨by omega, by omega, fun j h1 h2 e2 => by have := op_inj (e.trans e2.symm); omega⟩
theorem OpF.miss {s : By} {k : Nat} {o : Int} (h : OpF s k o) (e : opT k ≠ s) : OpF s (k + 1) o :=
  ⟨h.lo, h.hi, fun j h1 h2 e2 => by
    by_cases hj : j = k
    · exact absurd (by rw [← hj]; exact e2) e
    · exact h.is j h1 (by omega) e2⟩
structure RrP (l : List By) (id : Int) (r : Rq) : Prop where
  wf : WfR r
  t : r.topic.length ≤ 100000
  k : r.key.length ≤ 100000
  v : r.value.length ≤ 100000
  is : ∀ s, OkR s → WfR s → s.id = id → l = opT s.op :: (fldL s.op).map (fldT s) → r = s
end Go.Proofs.YtlnppgjppfkocaaGreatDoor.Xs

/-! The law's copied: a command in memory of its own, with a mark behind each list. -/
namespace Go.Proofs.YtlnppgjppfkocaaGreatDoor.Xs
open Go.RowKit Plain
set_option linter.unusedVariables false
set_option linter.unusedSimpArgs false

theorem Bx.grown {W u u' : World} {X : Nat} {l : List Value} {r : Option Nat} (h : Bx W u X l) (hg : u.grownBy u' r) (hne : r ≠ some X) : Bx W u' X l := by
  have hb : u'.heap[X]? = u.heap[X]? := hg.block X h.lt (fun e => hne e.symm)
  exact ⟨fun j hj => (World.cell?_of_block (w := u) (a := ⟨X, j, none⟩) hb).trans (h.c j hj), fun j hj => by rw [World.frozen?_of_block (w := u) (a := ⟨X, j, none⟩) hb]; exact h.fz j hj, h.ge, Nat.lt_of_lt_of_le h.lt hg.size⟩
theorem Bx.cmd {W u : World} {X : Nat} {c : Cm} {vr vp : Value} (h : Bx W u X (cmA c vr vp).toList) : CmAt u X c vr vp :=
  ⟨h.c 0 (by simp), h.c 1 (by simp), h.c 2 (by simp), h.c 3 (by simp), h.c 4 (by simp), h.c 5 (by simp), h.c 6 (by simp), h.c 7 (by simp), h.c 8 (by simp), h.c 9 (by simp), h.c 10 (by simp), h.c 11 (by simp), h.c 12 (by simp), h.c 13 (by simp)⟩
theorem opt_some {r r0 : Option Nat} {n : Nat} (hr : r = r0 ∨ r = some n) (h0 : r0 ≠ none) : ∃ g, r = some g := by
  rcases hr with e | e
  · cases r0 with
    | none => exact absurd rfl h0
    | some g => exact ⟨g, e⟩
  · exact ⟨n, e⟩
/-- A command's lists in memory of their own (from the world W on), a mark behind each. -/
structure CpL (W w : World) (x : By) (p : List Int) (g h cr cp : Nat) : Prop where
  r : Own w (.slice (some ⟨g, 0, none⟩) (x.length + 1) cr) (nats x ++ [77]) (some g)
  p : OwnV w (.slice (some ⟨h, 0, none⟩) (p.length + 1) cp) (ints p ++ [.int .i64 (-77)]) (some h)
  gB : W.heap.size ≤ g
  hB : W.heap.size ≤ h
  ne : g ≠ h
theorem CpL.later {W w w' : World} {x : By} {p : List Int} {g h cr cp : Nat} (k : CpL W w x p g h cr cp) (hb : Below w.heap.size w w') : CpL W w' x p g h cr cp :=
  ⟨k.r.later hb, k.p.of_block hb.size (fun g e => hb.block g (by cases e; exact k.p.lt)), k.gB, k.hB, k.ne⟩
theorem Own.capOf {w : World} {g n c : Nat} {l : List Nat} (h : Own w (.slice (some ⟨g, 0, none⟩) n c) l (some g)) : n = l.length ∧ l.length ≤ c ∧ c ≤ maxLen := by
  rcases h.2 with ⟨e, _, _⟩ | ⟨g', cap, _, e, _, h1, h2, _⟩
  · cases e
  · simp only [Value.slice.injEq] at e
    obtain ⟨_, e1, e2⟩ := e
    subst e2
    exact ⟨e1, h1, h2⟩
theorem OwnV.capOf {w : World} {g n c : Nat} {l : List Value} (h : OwnV w (.slice (some ⟨g, 0, none⟩) n c) l (some g)) : n = l.length ∧ l.length ≤ c ∧ c ≤ maxLen := by
  rcases h with ⟨e, _, _⟩ | ⟨g', cap, _, e, _, h1, h2, _⟩
  · cases e
  · simp only [Value.slice.injEq] at e
    obtain ⟨_, e1, e2⟩ := e
    subst e2
    exact ⟨e1, h1, h2⟩
theorem CpL.bys {W w : World} {x : By} {p : List Int} {g h cr cp : Nat} (k : CpL W w x p g h cr cp) (hx : x.length ≤ 140737488352000) : BysAt w (.slice (some ⟨g, 0, none⟩) x.length cr) x := by
  rcases k.r.2 with ⟨e, _, _⟩ | ⟨g', cap, eg, e, _, h1, _, _, _, h5⟩
  · cases e
  · cases eg
    simp only [Value.slice.injEq] at e
    obtain ⟨_, _, e2⟩ := e
    subst e2
    rw [List.length_append, nats_len, List.length_singleton] at h1 h5
    refine ⟨_, cr, rfl, by omega, hx, fun _ => ⟨g, 0, rfl, fun j hj => ?_⟩⟩
    have hj2 : j < (nats x).length := by rw [nats_len]; exact hj
    rw [Nat.zero_add, h5 j (by omega), List.getD_eq_getElem?_getD, List.getElem?_append_left hj2]
    simp [nats, List.getD_eq_getElem?_getD, hj]
theorem CpL.pks {W w : World} {x : By} {p : List Int} {g h cr cp : Nat} (k : CpL W w x p g h cr cp) (hp : p.length ≤ 17592186044000) : PksAt w (.slice (some ⟨h, 0, none⟩) p.length cp) p := by
  rcases k.p with ⟨e, _, _⟩ | ⟨g', cap, eg, e, _, h1, _, _, _, h5⟩
  · cases e
  · cases eg
    simp only [Value.slice.injEq] at e
    obtain ⟨_, _, e2⟩ := e
    subst e2
    rw [List.length_append, ints_len, List.length_singleton] at h1 h5
    refine ⟨_, cp, rfl, by omega, hp, fun _ => ⟨h, 0, rfl, fun j hj => ?_⟩⟩
    rw [Nat.zero_add, h5 j (by omega), List.getElem?_append_left (by rw [ints_len]; exact hj), ints_get hj]
/-- What is appended: the bytes of a slice that reads as x. -/
theorem bys_src {w : World} {v : Value} {x : By} (h : BysAt w v x) : Src Tryz.prog 1 25 v (nats x).length (cellsOf (nats x)) w := by
  obtain ⟨a, cap, rfl, h0, hl, hc⟩ := h
  by_cases hne : x = []
  · subst hne
    cases a with
    | none => exact Src.ofNil w Tryz.underlying25 cap
    | some a => exact Src.ofSlice w Tryz.underlying25 a 0 cap [] (by simp) (by simp) (by simp)
  · obtain ⟨b, off, rfl, hcc⟩ := hc hne
    rw [nats_len]
    refine Src.ofSlice w Tryz.underlying25 _ _ cap _ (by rw [cellsOf_len, nats_len]; omega) (fun j u hj => ?_) (cellsOf_one _)
    have hjl : j < (nats x).length := by
      have := (List.getElem?_eq_some_iff.mp hj).1
      rwa [cellsOf_len] at this
    have hjx : j < x.length := by rw [nats_len] at hjl; exact hjl
    rw [WideShapes.add_plain, hcc j hjx, ← hj, cellsOf_get _ j hjl]
    simp [nats, List.getD_eq_getElem?_getD, hjx]
theorem pks_src {w : World} {v : Value} {p : List Int} (h : PksAt w v p) : Src Tryz.prog 1 26 v (ints p).length (ints p) w := by
  obtain ⟨a, cap, rfl, h0, hl, hc⟩ := h
  by_cases hne : p = []
  · subst hne
    cases a with
    | none => exact Src.ofNil w Tryz.underlying26 cap
    | some a => exact Src.ofSlice w Tryz.underlying26 a 0 cap [] (by simp) (by simp) (by simp)
  · obtain ⟨b, off, rfl, hcc⟩ := hc hne
    rw [ints_len]
    refine Src.ofSlice w Tryz.underlying26 _ _ cap _ (by rw [ints_len]; omega) (fun j u hj => ?_) (fun u hu => ?_)
    · have hjl : j < p.length := by
        have := (List.getElem?_eq_some_iff.mp hj).1
        rwa [ints_len] at this
      rw [WideShapes.add_plain, hcc j hjl, ← ints_get hjl, hj]
    · simp [ints] at hu
      obtain ⟨z, _, rfl⟩ := hu
      rfl
end Go.Proofs.YtlnppgjppfkocaaGreatDoor.Xs

/-! The law's spoilt. -/
namespace Go.Proofs.YtlnppgjppfkocaaGreatDoor.Xs
open Go.RowKit Plain
set_option linter.unusedVariables false
set_option linter.unusedSimpArgs false

theorem cell_set_some {w : World} {a p : Addr} {x u : Value} (h : w.cell? a = some u) : ∃ u', (w.setCell p x).cell? a = some u' := by
  by_cases e : a = p
  · subst e; exact ⟨x, World.cell?_setCell_same _ _ _ h⟩
  · exact ⟨u, by rw [World.cell?_setCell_other _ _ _ _ (Ne.symm e)]; exact h⟩
theorem own_put {w : World} {a : Option Addr} {N c i : Nat} {l : List Nat} {q : Option Nat} (h : Own w (.slice a N c) l q) (hi : i < N) (x : Nat) (hx : x < 256) : ∃ g, a = some ⟨g, 0, none⟩ ∧ q = some g ∧ w.frozen? ⟨g, i, none⟩ = false ∧ (∃ u, w.cell? ⟨g, i, none⟩ = some u) ∧ Own (w.setCell ⟨g, i, none⟩ (.int .u8 (x : Int))) (.slice a N c) (l.set i x) q := by
  obtain ⟨hb, ⟨e, _, _⟩ | ⟨g, cap, rfl, e2, hg, h1, h2, h3, h4, h5⟩⟩ := h
  · simp only [Value.slice.injEq] at e; omega
  · simp only [Value.slice.injEq] at e2
    obtain ⟨rfl, rfl, rfl⟩ := e2
    refine ⟨g, rfl, rfl, h3 i (by omega), Option.isSome_iff_exists.mp (h4 i (by omega)), fun y hy => ?_, .inr ⟨g, c, rfl, by rw [List.length_set], by simpa using hg, by rw [List.length_set]; exact h1, h2, fun j hj => ?_, fun j hj => ?_, fun j hj => ?_⟩⟩
    · rcases List.mem_or_eq_of_mem_set hy with h | h
      · exact hb y h
      · rw [h]; exact hx
    · rw [World.frozen?_setCell]; exact h3 j hj
    · obtain ⟨u, hu⟩ := Option.isSome_iff_exists.mp (h4 j hj)
      obtain ⟨u', hu'⟩ := cell_set_some (p := ⟨g, i, none⟩) (x := .int .u8 (x : Int)) hu
      rw [hu']; rfl
    · rw [List.length_set] at hj
      by_cases e : j = i
      · subst e
        obtain ⟨u, hu⟩ := Option.isSome_iff_exists.mp (h4 j (by omega))
        rw [World.cell?_setCell_same _ _ _ hu]
        simp [List.getD_eq_getElem?_getD, hj]
      · rw [World.cell?_setCell_other _ _ _ _ (by simp only [ne_eq, Addr.mk.injEq]; omega), h5 j hj]
        simp [List.getD_eq_getElem?_getD, Ne.symm e]
theorem ownv_put {w : World} {a : Option Addr} {N c i : Nat} {vs : List Value} {q : Option Nat} (h : OwnV w (.slice a N c) vs q) (hi : i < N) (x : Value) : ∃ g, a = some ⟨g, 0, none⟩ ∧ q = some g ∧ w.frozen? ⟨g, i, none⟩ = false ∧ (∃ u, w.cell? ⟨g, i, none⟩ = some u) ∧ OwnV (w.setCell ⟨g, i, none⟩ x) (.slice a N c) (vs.set i x) q := by
  obtain ⟨e, rfl, -⟩ | ⟨g, cap, rfl, e2, hg, h1, h2, h3, h4, h5⟩ := h
  · simp only [Value.slice.injEq] at e; omega
  · simp only [Value.slice.injEq] at e2
    obtain ⟨rfl, rfl, rfl⟩ := e2
    refine ⟨g, rfl, rfl, h3 i (by omega), Option.isSome_iff_exists.mp (h4 i (by omega)), .inr ⟨g, c, rfl, by rw [List.length_set], by simpa using hg, by rw [List.length_set]; exact h1, h2, fun j hj => ?_, fun j hj => ?_, fun j hj => ?_⟩⟩
    · rw [World.frozen?_setCell]; exact h3 j hj
    · obtain ⟨u, hu⟩ := Option.isSome_iff_exists.mp (h4 j hj)
      obtain ⟨u', hu'⟩ := cell_set_some (p := ⟨g, i, none⟩) (x := x) hu
      rw [hu']; rfl
    · rw [List.length_set] at hj
      by_cases e : j = i
      · subst e
        obtain ⟨u, hu⟩ := Option.isSome_iff_exists.mp (h4 j (by omega))
        rw [World.cell?_setCell_same _ _ _ hu]
        simp [hj]
      · rw [World.cell?_setCell_other _ _ _ _ (by simp only [ne_eq, Addr.mk.injEq]; omega), h5 j hj]
        simp [Ne.symm e]

/-- Two rows that may be written over, and a box that is left alone. -/
structure SpS (W w u : World) (X : Nat) (l : List Value) (vr vp : Value) (nr np : Nat) (r s : Option Nat) : Prop where
  x : Bx w u X l
  b : ∃ y, y.length = nr ∧ Own u vr y r
  p : ∃ y, y.length = np ∧ OwnV u vp y s
  be : Below W.heap.size w u
  rB : ∀ g, r = some g → W.heap.size ≤ g ∧ g < w.heap.size
  sB : ∀ g, s = some g → W.heap.size ≤ g ∧ g < w.heap.size
  ne : r = none ∨ r ≠ s
theorem SpS.setB {W w u : World} {X : Nat} {l : List Value} {a : Option Addr} {c : Nat} {vp : Value} {nr np : Nat} {r s : Option Nat} (h : SpS W w u X l (.slice a nr c) vp nr np r s) {i : Nat} (hi : i < nr) (x : Nat) (hx : x < 256) :
    ∃ g, a = some ⟨g, 0, none⟩ ∧ u.frozen? ⟨g, i, none⟩ = false ∧ (∃ v, u.cell? ⟨g, i, none⟩ = some v) ∧ SpS W w (u.setCell ⟨g, i, none⟩ (.int .u8 (x : Int))) X l (.slice a nr c) vp nr np r s := by
  obtain ⟨y, hy, ho⟩ := h.b
  obtain ⟨z, hz, hp⟩ := h.p
  obtain ⟨g, rfl, rfl, h1, h2, h3⟩ := own_put ho hi x hx
  have hg := grow_setCells u g i [.int .u8 (x : Int)]
  have hgB := h.rB g rfl
  have hXg := h.x.ge
  refine ⟨g, rfl, h1, h2, h.x.other (by omega) i _, ⟨_, by rw [List.length_set]; exact hy, h3⟩, ⟨z, hz, hp.kept hg ?_⟩, h.be.trans (grow_below hg (by have := h.be.size; omega) (fun g' e => by cases e; exact hgB.1)), h.rB, h.sB, h.ne⟩
  rcases h.ne with e | e
  · cases e
  · exact .inr (fun e2 => e e2.symm)
theorem SpS.setP {W w u : World} {X : Nat} {l : List Value} {a : Option Addr} {c : Nat} {vr : Value} {nr np : Nat} {r s : Option Nat} (h : SpS W w u X l vr (.slice a np c) nr np r s) {i : Nat} (hi : i < np) (x : Value) :
    ∃ g, a = some ⟨g, 0, none⟩ ∧ u.frozen? ⟨g, i, none⟩ = false ∧ (∃ v, u.cell? ⟨g, i, none⟩ = some v) ∧ SpS W w (u.setCell ⟨g, i, none⟩ x) X l vr (.slice a np c) nr np r s := by
  obtain ⟨y, hy, ho⟩ := h.b
  obtain ⟨z, hz, hp⟩ := h.p
  obtain ⟨g, rfl, rfl, h1, h2, h3⟩ := ownv_put hp hi x
  have hg := grow_setCells u g i [x]
  have hgB := h.sB g rfl
  have hXg := h.x.ge
  refine ⟨g, rfl, h1, h2, h.x.other (by omega) i _, ⟨y, hy, ho.kept hg ?_⟩, ⟨_, by rw [List.length_set]; exact hz, h3⟩, h.be.trans (grow_below hg (by have := h.be.size; omega) (fun g' e => by cases e; exact hgB.1)), h.rB, h.sB, h.ne⟩
  rcases h.ne with e | e
  · exact .inl e
  · exact .inr e
/-- Two rows that are appended to. -/
structure SpA (W w u : World) (vb vq : Value) (nb nq : Nat) (r s : Option Nat) : Prop where
  b : ∃ y, y.length = nb ∧ Own u vb y r
  p : ∃ y, y.length = nq ∧ OwnV u vq y s
  be : Below W.heap.size w u
  rB : ∀ g, r = some g → W.heap.size ≤ g ∧ g < u.heap.size
  sB : ∀ g, s = some g → W.heap.size ≤ g ∧ g < u.heap.size
  ne : r = none ∨ r ≠ s
theorem SpA.pushB {W w u u' : World} {vb vq vb' : Value} {nb nq : Nat} {r s r' : Option Nat} {y : List Nat} {z : Nat} {o : Obj} (h : SpA W w u vb vq nb nq r s) (hy : y.length = nb) (hW : W.heap.size ≤ w.heap.size) (ho : Own u' vb' (y ++ [z]) r') (hg : (u.alloc o).grownBy u' r) (hr : r' = r ∨ r' = some (u.alloc o).heap.size) : SpA W w u' vb' vq (nb + 1) nq r' s := by
  obtain ⟨zz, hz, hp⟩ := h.p
  have hb := h.be.size
  have hs : (u.alloc o).heap.size = u.heap.size + 1 := by simp
  have hbo : Below W.heap.size w (u.alloc o) := h.be.alloc (by omega) o
  have hgs := hg.size
  rw [hs] at hgs
  refine ⟨⟨_, by rw [List.length_append, hy]; rfl, ho⟩, ⟨zz, hz, ?_⟩, hbo.trans (grow_below hg (by omega) (fun g e => (h.rB g e).1)), fun g e => ?_, fun g e => ⟨(h.sB g e).1, by have := (h.sB g e).2; omega⟩, ?_⟩
  · refine (hp.of_block (by omega) (fun g e => heap_alloc_old u o (h.sB g e).2)).kept hg ?_
    rcases h.ne with e | e
    · subst e; cases s with
      | none => exact .inl rfl
      | some g => exact .inr (by simp)
    · exact .inr (fun e2 => e e2.symm)
  · rcases hr with e2 | e2
    · have := h.rB g (by rw [← e2]; exact e); exact ⟨this.1, by omega⟩
    · rw [e2] at e; cases e; exact ⟨by omega, by subst e2; exact Own.lt ho⟩
  · rcases hr with e2 | e2
    · rw [e2]; exact h.ne
    · refine .inr (fun e3 => ?_)
      rw [e2] at e3
      have := (h.sB _ e3.symm).2
      omega
theorem SpA.pushP {W w u u' : World} {vb vq vq' : Value} {nb nq : Nat} {r s : Option Nat} {g : Nat} {y : List Value} {z : Value} {o : Obj} (h : SpA W w u vb vq nb nq r s) (hy : y.length = nq) (hW : W.heap.size ≤ w.heap.size) (ho : OwnV u' vq' (y ++ [z]) (some g)) (hg : (u.alloc o).grownBy u' s) (hr : some g = s ∨ g = (u.alloc o).heap.size) : SpA W w u' vb vq' nb (nq + 1) r (some g) := by
  obtain ⟨zz, hz, hp⟩ := h.b
  have hb := h.be.size
  have hs : (u.alloc o).heap.size = u.heap.size + 1 := by simp
  have hbo : Below W.heap.size w (u.alloc o) := h.be.alloc (by omega) o
  have hgs := hg.size
  rw [hs] at hgs
  refine ⟨⟨zz, hz, ?_⟩, ⟨_, by rw [List.length_append, hy]; rfl, ho⟩, hbo.trans (grow_below hg (by omega) (fun g e => (h.sB g e).1)), fun g e => ⟨(h.rB g e).1, by have := (h.rB g e).2; omega⟩, fun g' e => ?_, ?_⟩
  · refine (hp.later ((Below.refl _ u).alloc (Nat.le_refl _) o)).kept hg ?_
    rcases h.ne with e | e
    · exact .inl e
    · exact .inr e
  · cases e
    refine ⟨?_, ho.lt⟩
    rcases hr with e2 | e2
    · exact (h.sB g e2.symm).1
    · omega
  · rcases hr with e2 | e2
    · rw [e2]; exact h.ne
    · cases r with
      | none => exact .inl rfl
      | some g' => exact .inr (fun e3 => by cases e3; have := (h.rB g rfl).2; omega)
end Go.Proofs.YtlnppgjppfkocaaGreatDoor.Xs
