import Derived.Test.YtlnppgjppfkocaaGreatDoorGq16
import Derived.Lib.ParseIntB
import Derived.Shelf.Strconv.Itoa4
import Derived.Shelf.Strings.OnBuilder
import Derived.Shelf.Strings.SlTrimAscii
import Derived.Ground.NamesProg
import Derived.Test.YtlnppgjppfkocaaGreatDoorProg
import Derived.Test.YtlnppgjppfkocaaGreatDoorGq14
import Derived.Test.YtlnppgjppfkocaaGreatDoorGq12
import Derived.Lib.LaidTab
import Derived.Lib.ItoaMem
import Derived.Lib.AppendIntMem
import Derived.Test.YtlnppgjppfkocaaGreatDoorGq01
import Derived.Lib.Join
import Derived.Lib.SlTrimSet
/-! The program's cut of a line, plainly; where reading ends there is no command. -/
namespace Go.Proofs.YtlnppgjppfkocaaGreatDoor.Xs
set_option linter.unusedVariables false
set_option linter.unusedSimpArgs false

/-- The program's parts: e: behind a backslash; q: within quotes; cur: the part so far. -/
def cutP : Bool → Bool → By → By → List By
  | _, _, cur, [] => [cur]
  | true, q, cur, c :: r => cutP false q (cur ++ [c]) r
  | false, q, cur, c :: r =>
    if c = 92 then cutP true q (cur ++ [c]) r
    else if c = 34 then cutP false (!q) (cur ++ [c]) r
    else if c = 32 ∧ q = false then cur :: cutP false q [] r
    else cutP false q (cur ++ [c]) r
theorem cutP_nil (e q : Bool) (cur : By) : cutP e q cur [] = [cur] := by cases e <;> rw [cutP]
theorem cutP_esc (q : Bool) (cur r : By) (c : UInt8) : cutP true q cur (c :: r) = cutP false q (cur ++ [c]) r := by rw [cutP]
theorem cutP_back (q : Bool) (cur r : By) : cutP false q cur (92 :: r) = cutP true q (cur ++ [92]) r := by rw [cutP, if_pos rfl]
theorem cutP_quote (q : Bool) (cur r : By) : cutP false q cur (34 :: r) = cutP false (!q) (cur ++ [34]) r := by rw [cutP, if_neg (by decide), if_pos rfl]
theorem cutP_blank (cur r : By) : cutP false false cur (32 :: r) = cur :: cutP false false [] r := by rw [cutP, if_neg (by decide), if_neg (by decide), if_pos ⟨rfl, rfl⟩]
theorem cutP_other (q : Bool) (cur r : By) (c : UInt8) (h1 : c ≠ 92) (h2 : c ≠ 34) (h3 : ¬ (c = 32 ∧ q = false)) : cutP false q cur (c :: r) = cutP false q (cur ++ [c]) r := by
  rw [cutP, if_neg h1, if_neg h2, if_neg h3]
/-- A token of the program's. -/
def TokP (l : By) : Prop := ∀ cur r, cutP false false cur (l ++ r) = cutP false false (cur ++ l) r
theorem tokP_of : ∀ (l : By), (∀ c ∈ l, c ≠ 34 ∧ c ≠ 32 ∧ c ≠ 92) → TokP l
  | [], _ => fun cur r => by simp
  | c :: l, h => fun cur r => by
    have hc := h c (by simp)
    have := tokP_of l (fun d hd => h d (by simp [hd])) (cur ++ [c]) r
    rw [List.cons_append, cutP_other _ _ _ _ hc.2.2 hc.1 (fun e => hc.2.1 e.1), this, List.append_assoc]; rfl
theorem esc_cutP : ∀ (c : UInt8) (cur r : By), cutP false true cur (esc c ++ r) = cutP false true (cur ++ esc c) r := by
  intro c cur r
  unfold esc
  by_cases h1 : c = 34
  · rw [if_pos h1]
    show cutP false true cur (92 :: 34 :: r) = _
    rw [cutP_back, cutP_esc, List.append_assoc]; rfl
  · rw [if_neg h1]
    by_cases h2 : c = 92
    · rw [if_pos h2]
      show cutP false true cur (92 :: 92 :: r) = _
      rw [cutP_back, cutP_esc, List.append_assoc]; rfl
    · rw [if_neg h2]
      by_cases h3 : 32 ≤ c.toNat ∧ c.toNat ≤ 126
      · rw [if_pos h3]
        show cutP false true cur (c :: r) = _
        rw [cutP_other _ _ _ _ h2 h1 (fun e => by cases e.2)]
      · rw [if_neg h3]
        have hx : ∀ x : UInt8, ∀ d ∈ hxB x, d ≠ 92 ∧ d ≠ 34 := all256 (by decide +kernel)
        have ha := hx c (hxD (c.toNat / 16)) (by simp [hxB])
        have hb := hx c (hxD (c.toNat % 16)) (by simp [hxB])
        show cutP false true cur (92 :: 120 :: (hxB c ++ r)) = _
        rw [cutP_back, cutP_esc]
        show cutP false true _ (hxD (c.toNat / 16) :: hxD (c.toNat % 16) :: r) = _
        rw [cutP_other _ _ _ _ ha.1 ha.2 (fun e => by cases e.2), cutP_other _ _ _ _ hb.1 hb.2 (fun e => by cases e.2)]
        simp [hxB]
theorem escs_cutP : ∀ (s : By) (cur r : By), cutP false true cur (s.flatMap esc ++ r) = cutP false true (cur ++ s.flatMap esc) r
  | [], cur, r => by simp
  | c :: s, cur, r => by
    rw [List.flatMap_cons, List.append_assoc, esc_cutP, escs_cutP s, List.append_assoc]
theorem pl_neP : ∀ c : UInt8, plB c = true → c ≠ 34 ∧ c ≠ 32 ∧ c ≠ 92 := all256 (by decide +kernel)
theorem txt_tokP (s : By) : TokP (txt s) := by
  unfold txt
  split
  case isTrue h => exact tokP_of _ fun c hc => pl_neP c (List.all_eq_true.1 h.2 c hc)
  case isFalse h =>
    intro cur r
    rw [List.cons_append, cutP_quote, List.append_assoc]
    show cutP false true _ _ = _
    rw [escs_cutP]
    show cutP false true _ (34 :: r) = _
    rw [cutP_quote]
    simp
theorem itoa_tokP (n : Int) : TokP (Lib.itoa n) := tokP_of _ fun c hc => by
  rcases itoa_sign n c hc with h | h
  · exact ⟨fun e => by subst e; simp at h, fun e => by subst e; simp at h, fun e => by subst e; simp at h⟩
  · exact ⟨fun e => by subst e; simp at h, fun e => by subst e; simp at h, fun e => by subst e; simp at h⟩
theorem vW_tokP : ∀ i : Fin 11, ∀ c ∈ vW.getD i.val [], c ≠ 34 ∧ c ≠ 32 ∧ c ≠ 92 := by decide +kernel
theorem oW_tokP : ∀ i : Fin 15, ∀ c ∈ oW.getD i.val [], c ≠ 34 ∧ c ≠ 32 ∧ c ≠ 92 := by decide +kernel
theorem tokP_app {a b : By} (ha : TokP a) (hb : TokP b) : TokP (a ++ b) := fun cur r => by rw [List.append_assoc, ha, hb, List.append_assoc]
theorem verb_tokP (v : Int) : TokP (verbT v) := by
  unfold verbT
  split
  case isTrue h => exact tokP_of _ (vW_tokP ⟨v.toNat, by omega⟩)
  case isFalse h => exact tokP_of _ (fun c hc => by cases hc)
theorem op_tokP (op : Int) : TokP (opT op) := by
  unfold opT
  split
  case isTrue h => exact tokP_of _ (oW_tokP ⟨op.toNat - 1, by omega⟩)
  case isFalse h =>
    split
    · exact tokP_of _ (by decide)
    · exact tokP_app (tokP_of _ (by decide)) (itoa_tokP _)
theorem raw_tokP (l : By) : TokP (rawT l) := by
  unfold rawT
  split
  · exact tokP_of _ (by decide : ∀ c ∈ ([45] : By), c ≠ 34 ∧ c ≠ 32 ∧ c ≠ 92)
  · refine tokP_of _ fun c hc => ?_
    obtain ⟨a, _, ha⟩ := List.mem_flatMap.1 hc
    have : ∀ x : UInt8, ∀ d ∈ hxB x, d ≠ 34 ∧ d ≠ 32 ∧ d ≠ 92 := all256 (by decide +kernel)
    exact this a c ha
theorem fld_tokP (r : Rq) (u : UInt8) : TokP (fldT r u) := by
  unfold fldT
  repeat' split
  all_goals first | exact txt_tokP _ | exact itoa_tokP _ | exact tokP_of _ (fun c hc => by cases hc)
theorem cutP_joins : ∀ (ps : List By) (cur : By), (∀ x ∈ ps, TokP x) → cutP false false cur (ps.flatMap (fun x => 32 :: x)) = cur :: ps
  | [], cur, _ => by rw [List.flatMap_nil, cutP_nil]
  | p :: ps, cur, h => by
    have hp := h p (by simp)
    rw [List.flatMap_cons, List.cons_append, cutP_blank, hp, List.nil_append, cutP_joins ps p (fun x hx => h x (by simp [hx]))]
theorem cutP_join (p : By) (ps : List By) (hp : TokP p) (h : ∀ x ∈ ps, TokP x) : cutP false false [] (joinL p ps) = p :: ps := by
  unfold joinL
  rw [hp, List.nil_append, cutP_joins ps p h]
theorem line_cutP (c : Cm) : cutP false false [] (lineL c) = verbT c.verb :: argsL c := cutP_join _ _ (verb_tokP _) (args_all itoa_tokP op_tokP raw_tokP fld_tokP c)
/-- Within the program's loop: i signs have been looked at, fr is where the part begins. -/
def PrP (s : By) (i : Nat) (e q : Bool) (fr : Nat) (l : List By) : Prop := cutP false false [] s = l ++ cutP e q ((s.take i).drop fr) (s.drop i)
theorem PrP.start (s : By) : PrP s 0 false false 0 [] := by unfold PrP; simp
theorem PrP.esc {s : By} {i fr : Nat} {q : Bool} {l : List By} (h : PrP s i true q fr l) (hi : i < s.length) (hf : fr ≤ i) : PrP s (i + 1) false q fr l := by
  unfold PrP at *
  rw [h, drop_at hi, cutP_esc, cur_snoc hi hf]
theorem PrP.back {s : By} {i fr : Nat} {q : Bool} {l : List By} (h : PrP s i false q fr l) (hi : i < s.length) (hf : fr ≤ i) (hc : s.getD i 0 = 92) : PrP s (i + 1) true q fr l := by
  unfold PrP at *
  rw [h, drop_at hi, hc, cutP_back, cur_snoc hi hf, hc]
theorem PrP.quote {s : By} {i fr : Nat} {q : Bool} {l : List By} (h : PrP s i false q fr l) (hi : i < s.length) (hf : fr ≤ i) (hc : s.getD i 0 = 34) : PrP s (i + 1) false (!q) fr l := by
  unfold PrP at *
  rw [h, drop_at hi, hc, cutP_quote, cur_snoc hi hf, hc]
theorem PrP.blank {s : By} {i fr : Nat} {l : List By} (h : PrP s i false false fr l) (hi : i < s.length) (hc : s.getD i 0 = 32) : PrP s (i + 1) false false (i + 1) (l ++ [(s.take i).drop fr]) := by
  unfold PrP at *
  rw [h, drop_at hi, hc, cutP_blank, show (s.take (i + 1)).drop (i + 1) = [] from List.drop_of_length_le (by rw [List.length_take]; omega)]
  simp
theorem PrP.other {s : By} {i fr : Nat} {q : Bool} {l : List By} (h : PrP s i false q fr l) (hi : i < s.length) (hf : fr ≤ i) (h34 : s.getD i 0 ≠ 34) (h92 : s.getD i 0 ≠ 92) (h32 : q = false → s.getD i 0 ≠ 32) : PrP s (i + 1) false q fr l := by
  unfold PrP at *
  rw [h, drop_at hi, cutP_other _ _ _ _ h92 h34 (fun e => h32 e.2 e.1), cur_snoc hi hf]
theorem PrP.done {s : By} {i fr : Nat} {e q : Bool} {l : List By} (h : PrP s i e q fr l) (hi : s.length ≤ i) : cutP false false [] s = l ++ [s.drop fr] := by
  unfold PrP at h
  rw [h, List.drop_of_length_le hi, cutP_nil, List.take_of_length_le hi]

/-! ### No command -/
theorem of_partsP {line : By} {d : Cm} (h : Of line d) : cutP false false [] line = verbT d.verb :: argsL d := by rw [← h.2.2]; exact line_cutP d
/-- No command has this line. -/
def NoC (line : By) : Prop := ∀ d, ¬ Of line d
theorem noc_verb {line x : By} {T : List By} (hP : ∀ d, Of line d → x :: T = verbT d.verb :: argsL d) (h : ∀ n : Int, 0 ≤ n → n < 11 → x ≠ verbT n) : NoC line := fun d hd => by
  have := hP d hd
  exact h _ hd.2.1.v1 (by have := hd.2.1.v2; omega) (List.cons.inj this).1
theorem noc_conn {line : By} {T : List By} {vb : Int} (h : ∀ d, Of line d → vb = d.verb ∧ T = argsL d) (hc : cnB vb = true) (hz : ∀ x U, T = x :: U → ∀ n, I64 n → x ≠ Lib.itoa n) : NoC line := fun d hd => by
  obtain ⟨e1, e2⟩ := h d hd
  rw [args_rest hd.2.1, ← e1, if_pos hc] at e2
  exact hz _ _ e2 _ hd.1.conn rfl
theorem noc_n {line : By} {T : List By} {vb z : Int} (h : St2 line vb z T) (hv : vb = 4 ∨ vb = 6 ∨ vb = 7) (hz : ∀ x U, T = x :: U → ∀ n, I64 n → x ≠ Lib.itoa n) : NoC line := fun d hd => by
  obtain ⟨e1, e2, e3⟩ := h d hd
  unfold restA at e3
  rw [if_neg (by omega), if_neg (by omega), if_pos (by omega)] at e3
  exact hz _ _ e3 _ hd.1.n rfl
theorem noc_raw {line : By} {T : List By} {z : Int} (h : St2 line 3 z T) (hz : ∀ x U, T = x :: U → ∀ y, x ≠ rawT y) : NoC line := fun d hd => by
  obtain ⟨e1, e2, e3⟩ := h d hd
  unfold restA at e3
  rw [if_neg (by omega), if_pos e1.symm] at e3
  exact hz _ _ e3 _ rfl
theorem noc_pick {line : By} {T : List By} {vb z : Int} (h : St2 line vb z T) (hv : vb = 5 ∨ vb = 8) (k : Nat) (hk : k < T.length) (hz : ∀ n, I64 n → T.getD k [] ≠ Lib.itoa n) : NoC line := fun d hd => by
  obtain ⟨e1, e2, e3⟩ := h d hd
  unfold restA at e3
  rw [if_neg (by omega), if_neg (by omega), if_neg (by omega), if_pos (by omega)] at e3
  have hl : k < d.picks.length := by rw [e3, List.length_map] at hk; exact hk
  refine hz d.picks[k] (hd.1.picks _ (List.getElem_mem hl)) ?_
  rw [e3, List.getD_eq_getElem?_getD, List.getElem?_map, List.getElem?_eq_getElem hl]; rfl
theorem of_vis {line : By} {d : Cm} (h : Of line d) : Vis line := by rw [← h.2.2]; exact line_vis d
end Go.Proofs.YtlnppgjppfkocaaGreatDoor.Xs

/-! What ParseInt says of a number that was written. -/
namespace Go.Proofs.YtlnppgjppfkocaaGreatDoor.Xs
set_option linter.unusedVariables false
set_option linter.unusedSimpArgs false

def fdL (a : Nat) (l : By) : Nat := l.foldl (fun a c => a * 10 + (c.toNat - 48)) a
theorem fd_cons (a : Nat) (c : UInt8) (l : By) : fdL a (c :: l) = fdL (a * 10 + (c.toNat - 48)) l := by unfold fdL; rw [List.foldl_cons]
theorem fd_ge : ∀ (l : By) (a : Nat), a ≤ fdL a l
  | [], a => Nat.le_refl _
  | c :: l, a => by
    rw [fd_cons]
    exact Nat.le_trans (by omega) (fd_ge l _)
theorem parseM_ok : ∀ (l : By) (a : Nat), (∀ c ∈ l, 48 ≤ c.toNat ∧ c.toNat ≤ 57) → fdL a l ≤ 9223372036854775808 → Lib.parseUintM (2 ^ 64 - 1) a l = .ok (fdL a l)
  | [], a, _, _ => rfl
  | c :: l, a, h, hl => by
    have hc := h c (by simp)
    have h1 := fd_ge l (a * 10 + (c.toNat - 48))
    rw [fd_cons] at hl ⊢
    rw [Lib.parseUintM, if_pos hc, if_neg (by omega), if_neg (by simp only [Nat.reducePow, Nat.reduceSub]; omega)]
    exact parseM_ok l _ (fun d hd => h d (by simp [hd])) hl
theorem parseB_dec (n : Nat) (h : n ≤ 9223372036854775808) : Lib.parseUintB 64 (Lib.decDigits n) = .ok n := by
  have hd : fdL 0 (Lib.decDigits n) = n := dv_dec n
  unfold Lib.parseUintB
  rw [if_neg (dec_nonempty n), parseM_ok _ _ (dec_dig n) (by rw [hd]; exact h), hd]
theorem parse_itoa {n : Int} (h : I64 n) : Lib.parseIntB 64 (Lib.itoa n) = .ok n := by
  unfold I64 at h
  unfold Lib.itoa
  by_cases hn : n < 0
  · rw [if_pos hn]
    unfold Lib.parseIntB
    simp only
    rw [if_pos (Or.inr (by decide)), parseB_dec _ (by omega)]
    have h45 : (45 : UInt8).toNat = 45 := by decide
    simp only [h45]
    rw [if_neg (fun e => e.1 trivial), if_neg (fun e => absurd e.2 (by simp only [Nat.reduceSub, Nat.reducePow]; omega)), if_pos trivial]
    congr 1; omega
  · rw [if_neg hn]
    have hne := dec_nonempty n.toNat
    cases hd : Lib.decDigits n.toNat with
    | nil => exact absurd hd hne
    | cons c r =>
      have hc : 48 ≤ c.toNat ∧ c.toNat ≤ 57 := dec_dig n.toNat c (by rw [hd]; simp)
      have hp := parseB_dec n.toNat (by omega)
      rw [hd] at hp
      unfold Lib.parseIntB
      simp only
      rw [if_neg (by omega), hp]
      simp only
      rw [if_neg (by simp only [Nat.reduceSub, Nat.reducePow]; omega), if_neg (by omega), if_neg (by omega)]
      congr 1; omega
theorem parse_i64 {l : By} {n : Int} (h : Lib.parseIntB 64 l = .ok n) : I64 n := by
  unfold Lib.parseIntB at h
  split at h
  · cases h
  · simp only at h
    split at h
    · cases h
    · cases h
    · split at h
      · cases h
      · split at h
        · cases h
        · rename_i u _ h1 h2
          simp only [Nat.reduceSub, Nat.reducePow] at h1 h2
          have := Lib.NumEnd.ok.inj h
          unfold I64
          split at this <;> omega
end Go.Proofs.YtlnppgjppfkocaaGreatDoor.Xs

namespace Go.Proofs
open Go.Shelf
def Tryz.lFmt_ren : Go.Shelf.Ren := ⟨fun | 173 => 57 | 246 => 85 | 283 => 109 | 284 => 110 | 285 => 111 | 286 => 112 | 129 => 125 | 317 => 124 | 318 => 126 | 319 => 127 | 320 => 128 | 337 => 138 | 338 => 139 | n => n, fun | 2 => 2 | 3 => 3 | 9 => 9 | 4 => 4 | 171 => 137 | 0 => 0 | 53 => 83 | 37 => 25 | 5 => 5 | 173 => 140 | 212 => 158 | 51 => 22 | 20 => 20 | 213 => 159 | 46 => 145 | 232 => 180 | 233 => 181 | n => n, fun | 17 => 1 | 18 => 6 | 19 => 7 | n => n⟩
theorem Tryz.lFmt : Go.Proofs.LaysM.n173 Tryz.prog Tryz.lFmt_ren := {
  mixed := by kernel_rfl
  f129 := Tryz.func125.trans (congrArg some (by kernel_rfl))
  f173 := Tryz.func57.trans (congrArg some (by kernel_rfl))
  f246 := Tryz.func85.trans (congrArg some (by kernel_rfl))
  f283 := Tryz.func109.trans (congrArg some (by kernel_rfl))
  f284 := Tryz.func110.trans (congrArg some (by kernel_rfl))
  f285 := Tryz.func111.trans (congrArg some (by kernel_rfl))
  f286 := Tryz.func112.trans (congrArg some (by kernel_rfl))
  f317 := Tryz.func124.trans (congrArg some (by kernel_rfl))
  f318 := Tryz.func126.trans (congrArg some (by kernel_rfl))
  f319 := Tryz.func127.trans (congrArg some (by kernel_rfl))
  f320 := Tryz.func128.trans (congrArg some (by kernel_rfl))
  f337 := Tryz.func138.trans (congrArg some (by kernel_rfl))
  f338 := Tryz.func139.trans (congrArg some (by kernel_rfl))
  t0 := Tryz.underlying0
  a0 := Tryz.isAgg0
  z0 := Tryz.sizeOf0
  v0 := Tryz.zeroValue0
  t2 := Tryz.underlying2
  a2 := Tryz.isAgg2
  z2 := Tryz.sizeOf2
  v2 := Tryz.zeroValue2
  t3 := Tryz.underlying3
  a3 := Tryz.isAgg3
  z3 := Tryz.sizeOf3
  v3 := Tryz.zeroValue3
  t4 := Tryz.underlying4
  a4 := Tryz.isAgg4
  z4 := Tryz.sizeOf4
  v4 := Tryz.zeroValue4
  t5 := Tryz.underlying5
  a5 := Tryz.isAgg5
  z5 := Tryz.sizeOf5
  v5 := Tryz.zeroValue5
  t9 := Tryz.underlying9
  a9 := Tryz.isAgg9
  z9 := Tryz.sizeOf9
  v9 := Tryz.zeroValue9
  t20 := Tryz.underlying20
  a20 := Tryz.isAgg20
  z20 := Tryz.sizeOf20
  v20 := Tryz.zeroValue20
  t37 := Tryz.underlying25
  a37 := Tryz.isAgg25
  z37 := Tryz.sizeOf25
  v37 := Tryz.zeroValue25
  t46 := Tryz.underlying145
  a46 := Tryz.isAgg145
  z46 := Tryz.sizeOf145
  v46 := Tryz.zeroValue145
  t51 := Tryz.underlying22
  a51 := Tryz.isAgg22
  z51 := Tryz.sizeOf22
  v51 := Tryz.zeroValue22
  t53 := Tryz.underlying83
  a53 := Tryz.isAgg83
  z53 := Tryz.sizeOf83
  v53 := Tryz.zeroValue83
  t171 := Tryz.underlying137
  a171 := Tryz.isAgg137
  z171 := Tryz.sizeOf137
  v171 := Tryz.zeroValue137
  t173 := Tryz.underlying140
  a173 := Tryz.isAgg140
  z173 := Tryz.sizeOf140
  v173 := Tryz.zeroValue140
  t212 := Tryz.underlying158
  a212 := Tryz.isAgg158
  z212 := Tryz.sizeOf158
  v212 := Tryz.zeroValue158
  t213 := Tryz.underlying159
  a213 := Tryz.isAgg159
  z213 := Tryz.sizeOf159
  t232 := Tryz.underlying180
  a232 := Tryz.isAgg180
  z232 := Tryz.sizeOf180
  v232 := Tryz.zeroValue180
  t233 := Tryz.underlying181
  a233 := Tryz.isAgg181
  z233 := Tryz.sizeOf181
  v233 := Tryz.zeroValue181
  g17 := by kernel_rfl
  g18 := by kernel_rfl
  g19 := by kernel_rfl
  i0 := by kernel_rfl
  i2 := by kernel_rfl
  i3 := by kernel_rfl
  i4 := by kernel_rfl
  i5 := by kernel_rfl
  i9 := by kernel_rfl
  i20 := by kernel_rfl
  i37 := by kernel_rfl
  i46 := by kernel_rfl
  i51 := by kernel_rfl
  i53 := by kernel_rfl
  i171 := by kernel_rfl
  i173 := by kernel_rfl
  i212 := by kernel_rfl
  i232 := by kernel_rfl
  i233 := by kernel_rfl
  m17 := by kernel_rfl
  m18 := by kernel_rfl
  m19 := by kernel_rfl }
def Tryz.lItoa_ren : Go.Shelf.Ren := ⟨fun | 171 => 58 | 243 => 86 | 246 => 85 | 283 => 109 | 284 => 110 | 285 => 111 | 286 => 112 | 129 => 125 | 317 => 124 | 318 => 126 | 319 => 127 | 320 => 128 | 337 => 138 | 338 => 139 | n => n, fun | 3 => 3 | 9 => 9 | 2 => 2 | 4 => 4 | 171 => 137 | 0 => 0 | 53 => 83 | 37 => 25 | 5 => 5 | 173 => 140 | 212 => 158 | 51 => 22 | 20 => 20 | 213 => 159 | 46 => 145 | 232 => 180 | 233 => 181 | n => n, fun | 17 => 1 | 18 => 6 | 19 => 7 | n => n⟩
theorem Tryz.lItoa : Go.Proofs.LaysM.n171 Tryz.prog Tryz.lItoa_ren := {
  mixed := by kernel_rfl
  f129 := Tryz.func125.trans (congrArg some (by kernel_rfl))
  f171 := Tryz.func58.trans (congrArg some (by kernel_rfl))
  f243 := Tryz.func86.trans (congrArg some (by kernel_rfl))
  f246 := Tryz.func85.trans (congrArg some (by kernel_rfl))
  f283 := Tryz.func109.trans (congrArg some (by kernel_rfl))
  f284 := Tryz.func110.trans (congrArg some (by kernel_rfl))
  f285 := Tryz.func111.trans (congrArg some (by kernel_rfl))
  f286 := Tryz.func112.trans (congrArg some (by kernel_rfl))
  f317 := Tryz.func124.trans (congrArg some (by kernel_rfl))
  f318 := Tryz.func126.trans (congrArg some (by kernel_rfl))
  f319 := Tryz.func127.trans (congrArg some (by kernel_rfl))
  f320 := Tryz.func128.trans (congrArg some (by kernel_rfl))
  f337 := Tryz.func138.trans (congrArg some (by kernel_rfl))
  f338 := Tryz.func139.trans (congrArg some (by kernel_rfl))
  t0 := Tryz.underlying0
  a0 := Tryz.isAgg0
  z0 := Tryz.sizeOf0
  v0 := Tryz.zeroValue0
  t2 := Tryz.underlying2
  a2 := Tryz.isAgg2
  z2 := Tryz.sizeOf2
  v2 := Tryz.zeroValue2
  t3 := Tryz.underlying3
  a3 := Tryz.isAgg3
  z3 := Tryz.sizeOf3
  v3 := Tryz.zeroValue3
  t4 := Tryz.underlying4
  a4 := Tryz.isAgg4
  z4 := Tryz.sizeOf4
  v4 := Tryz.zeroValue4
  t5 := Tryz.underlying5
  a5 := Tryz.isAgg5
  z5 := Tryz.sizeOf5
  v5 := Tryz.zeroValue5
  t9 := Tryz.underlying9
  a9 := Tryz.isAgg9
  z9 := Tryz.sizeOf9
  v9 := Tryz.zeroValue9
  t20 := Tryz.underlying20
  a20 := Tryz.isAgg20
  z20 := Tryz.sizeOf20
  v20 := Tryz.zeroValue20
  t37 := Tryz.underlying25
  a37 := Tryz.isAgg25
  z37 := Tryz.sizeOf25
  v37 := Tryz.zeroValue25
  t46 := Tryz.underlying145
  a46 := Tryz.isAgg145
  z46 := Tryz.sizeOf145
  v46 := Tryz.zeroValue145
  t51 := Tryz.underlying22
  a51 := Tryz.isAgg22
  z51 := Tryz.sizeOf22
  v51 := Tryz.zeroValue22
  t53 := Tryz.underlying83
  a53 := Tryz.isAgg83
  z53 := Tryz.sizeOf83
  v53 := Tryz.zeroValue83
  t171 := Tryz.underlying137
  a171 := Tryz.isAgg137
  z171 := Tryz.sizeOf137
  v171 := Tryz.zeroValue137
  t173 := Tryz.underlying140
  a173 := Tryz.isAgg140
  z173 := Tryz.sizeOf140
  v173 := Tryz.zeroValue140
  t212 := Tryz.underlying158
  a212 := Tryz.isAgg158
  z212 := Tryz.sizeOf158
  v212 := Tryz.zeroValue158
  t213 := Tryz.underlying159
  a213 := Tryz.isAgg159
  z213 := Tryz.sizeOf159
  t232 := Tryz.underlying180
  a232 := Tryz.isAgg180
  z232 := Tryz.sizeOf180
  v232 := Tryz.zeroValue180
  t233 := Tryz.underlying181
  a233 := Tryz.isAgg181
  z233 := Tryz.sizeOf181
  v233 := Tryz.zeroValue181
  g17 := by kernel_rfl
  g18 := by kernel_rfl
  g19 := by kernel_rfl
  i0 := by kernel_rfl
  i2 := by kernel_rfl
  i3 := by kernel_rfl
  i4 := by kernel_rfl
  i5 := by kernel_rfl
  i9 := by kernel_rfl
  i20 := by kernel_rfl
  i37 := by kernel_rfl
  i46 := by kernel_rfl
  i51 := by kernel_rfl
  i53 := by kernel_rfl
  i171 := by kernel_rfl
  i173 := by kernel_rfl
  i212 := by kernel_rfl
  i232 := by kernel_rfl
  i233 := by kernel_rfl
  m17 := by kernel_rfl
  m18 := by kernel_rfl
  m19 := by kernel_rfl }
def Tryz.lTrim_ren : Go.Shelf.Ren := ⟨fun | 160 => 59 | 232 => 88 | 231 => 87 | 227 => 89 | 234 => 91 | 233 => 90 | 236 => 93 | 235 => 92 | 228 => 113 | 271 => 116 | 151 => 115 | 197 => 114 | 120 => 131 | 152 => 130 | 260 => 129 | 137 => 140 | 119 => 141 | 224 => 142 | 225 => 143 | 217 => 155 | 266 => 157 | n => n, fun | 9 => 9 | 4 => 4 | 3 => 3 | 5 => 5 | 117 => 109 | 116 => 108 | 0 => 0 | 124 => 112 | 21 => 21 | 105 => 142 | 46 => 145 | 119 => 166 | 139 => 169 | 138 => 168 | n => n, fun | 3 => 4 | 4 => 5 | n => n⟩
theorem Tryz.lTrim : Go.Proofs.Lays.n160 Tryz.prog Tryz.lTrim_ren := {
  mixed := by kernel_rfl
  f119 := Tryz.func141.trans (congrArg some (by kernel_rfl))
  f120 := Tryz.func131.trans (congrArg some (by kernel_rfl))
  f137 := Tryz.func140.trans (congrArg some (by kernel_rfl))
  f151 := Tryz.func115.trans (congrArg some (by kernel_rfl))
  f152 := Tryz.func130.trans (congrArg some (by kernel_rfl))
  f160 := Tryz.func59.trans (congrArg some (by kernel_rfl))
  f197 := Tryz.func114.trans (congrArg some (by kernel_rfl))
  f217 := Tryz.func155.trans (congrArg some (by kernel_rfl))
  f224 := Tryz.func142.trans (congrArg some (by kernel_rfl))
  f225 := Tryz.func143.trans (congrArg some (by kernel_rfl))
  f227 := Tryz.func89.trans (congrArg some (by kernel_rfl))
  f228 := Tryz.func113.trans (congrArg some (by kernel_rfl))
  f231 := Tryz.func87.trans (congrArg some (by kernel_rfl))
  f232 := Tryz.func88.trans (congrArg some (by kernel_rfl))
  f233 := Tryz.func90.trans (congrArg some (by kernel_rfl))
  f234 := Tryz.func91.trans (congrArg some (by kernel_rfl))
  f235 := Tryz.func92.trans (congrArg some (by kernel_rfl))
  f236 := Tryz.func93.trans (congrArg some (by kernel_rfl))
  f260 := Tryz.func129.trans (congrArg some (by kernel_rfl))
  f266 := Tryz.func157.trans (congrArg some (by kernel_rfl))
  f271 := Tryz.func116.trans (congrArg some (by kernel_rfl))
  t0 := Tryz.underlying0
  a0 := Tryz.isAgg0
  z0 := Tryz.sizeOf0
  v0 := Tryz.zeroValue0
  t3 := Tryz.underlying3
  a3 := Tryz.isAgg3
  z3 := Tryz.sizeOf3
  v3 := Tryz.zeroValue3
  t4 := Tryz.underlying4
  a4 := Tryz.isAgg4
  z4 := Tryz.sizeOf4
  v4 := Tryz.zeroValue4
  t5 := Tryz.underlying5
  a5 := Tryz.isAgg5
  z5 := Tryz.sizeOf5
  v5 := Tryz.zeroValue5
  t9 := Tryz.underlying9
  a9 := Tryz.isAgg9
  z9 := Tryz.sizeOf9
  v9 := Tryz.zeroValue9
  t21 := Tryz.underlying21
  a21 := Tryz.isAgg21
  z21 := Tryz.sizeOf21
  v21 := Tryz.zeroValue21
  t46 := Tryz.underlying145
  a46 := Tryz.isAgg145
  z46 := Tryz.sizeOf145
  v46 := Tryz.zeroValue145
  t105 := Tryz.underlying142
  a105 := Tryz.isAgg142
  z105 := Tryz.sizeOf142
  v105 := Tryz.zeroValue142
  t116 := Tryz.underlying108
  a116 := Tryz.isAgg108
  z116 := Tryz.sizeOf108
  t117 := Tryz.underlying109
  a117 := Tryz.isAgg109
  z117 := Tryz.sizeOf109
  v117 := Tryz.zeroValue109
  t119 := Tryz.underlying166
  a119 := Tryz.isAgg166
  z119 := Tryz.sizeOf166
  t124 := Tryz.underlying112
  a124 := Tryz.isAgg112
  z124 := Tryz.sizeOf112
  v124 := Tryz.zeroValue112
  t138 := Tryz.underlying168
  a138 := Tryz.isAgg168
  z138 := Tryz.sizeOf168
  v138 := Tryz.zeroValue168
  t139 := Tryz.underlying169
  a139 := Tryz.isAgg169
  z139 := Tryz.sizeOf169
  v139 := Tryz.zeroValue169
  g3 := by kernel_rfl
  g4 := by kernel_rfl }
def Tryz.lJoin_ren : Go.Shelf.Ren := ⟨fun | 156 => 44 | 165 => 78 | 166 => 79 | 169 => 80 | 240 => 107 | 241 => 108 | 276 => 122 | 277 => 123 | n => n, fun | 31 => 43 | 9 => 9 | 3 => 3 | 4 => 4 | 0 => 0 | 20 => 20 | 72 => 98 | 76 => 102 | 70 => 96 | 37 => 25 | 75 => 101 | 127 => 136 | 164 => 153 | 5 => 5 | 80 => 58 | n => n, fun | n => n⟩
theorem Tryz.lJoin : Go.Proofs.Lays.n156 Tryz.prog Tryz.lJoin_ren := {
  mixed := by kernel_rfl
  f156 := Tryz.func44.trans (congrArg some (by kernel_rfl))
  f165 := Tryz.func78.trans (congrArg some (by kernel_rfl))
  f166 := Tryz.func79.trans (congrArg some (by kernel_rfl))
  f169 := Tryz.func80.trans (congrArg some (by kernel_rfl))
  f240 := Tryz.func107.trans (congrArg some (by kernel_rfl))
  f241 := Tryz.func108.trans (congrArg some (by kernel_rfl))
  f276 := Tryz.func122.trans (congrArg some (by kernel_rfl))
  f277 := Tryz.func123.trans (congrArg some (by kernel_rfl))
  t0 := Tryz.underlying0
  a0 := Tryz.isAgg0
  z0 := Tryz.sizeOf0
  v0 := Tryz.zeroValue0
  t3 := Tryz.underlying3
  a3 := Tryz.isAgg3
  z3 := Tryz.sizeOf3
  v3 := Tryz.zeroValue3
  t4 := Tryz.underlying4
  a4 := Tryz.isAgg4
  z4 := Tryz.sizeOf4
  v4 := Tryz.zeroValue4
  t9 := Tryz.underlying9
  a9 := Tryz.isAgg9
  z9 := Tryz.sizeOf9
  v9 := Tryz.zeroValue9
  t20 := Tryz.underlying20
  a20 := Tryz.isAgg20
  z20 := Tryz.sizeOf20
  v20 := Tryz.zeroValue20
  t31 := Tryz.underlying43
  a31 := Tryz.isAgg43
  z31 := Tryz.sizeOf43
  v31 := Tryz.zeroValue43
  t37 := Tryz.underlying25
  a37 := Tryz.isAgg25
  z37 := Tryz.sizeOf25
  v37 := Tryz.zeroValue25
  t70 := Tryz.underlying96
  a70 := Tryz.isAgg96
  z70 := Tryz.sizeOf96
  v70 := Tryz.zeroValue96
  t72 := Tryz.underlying98
  a72 := Tryz.isAgg98
  z72 := Tryz.sizeOf98
  v72 := Tryz.zeroValue98
  t75 := Tryz.underlying101
  a75 := Tryz.isAgg101
  z75 := Tryz.sizeOf101
  v75 := Tryz.zeroValue101
  t76 := Tryz.underlying102
  a76 := Tryz.isAgg102
  z76 := Tryz.sizeOf102
  v76 := Tryz.zeroValue102
  t127 := Tryz.underlying136
  a127 := Tryz.isAgg136
  z127 := Tryz.sizeOf136
  v127 := Tryz.zeroValue136
  t164 := Tryz.underlying153
  a164 := Tryz.isAgg153
  z164 := Tryz.sizeOf153
  v164 := Tryz.zeroValue153 }
end Go.Proofs

/-! The program's writer: parts of a line that are gathered. -/
namespace Go.Proofs.YtlnppgjppfkocaaGreatDoor.Xs
open Go.RowKit Plain
set_option linter.unusedVariables false
set_option linter.unusedSimpArgs false

/-- strconv's table, as laid. -/
def Tab (w : World) : Prop := Lib.TabIs Tryz.prog w "internal/strconv.uint64pow10" .u64 Lib.pow10Tab
theorem Tab.later {w w' : World} (h : Tab w) (hb : Below w.heap.size w w') : Tab w' := Lib.tabBelow_of_tabIs h w' hb
theorem Tab.on {W w : World} (h : Tab W) (hb : Below W.heap.size W w) : Tab w := h.later hb

/-- The blocks of P stay as they are. -/
def Kp (P : Nat → Prop) (w w' : World) : Prop := ∀ b, P b → w'.heap[b]? = w.heap[b]?
theorem Kp.refl (P : Nat → Prop) (w : World) : Kp P w w := fun _ _ => rfl
theorem Kp.trans {P : Nat → Prop} {a b c : World} (h : Kp P a b) (k : Kp P b c) : Kp P a c := fun x hx => (k x hx).trans (h x hx)
theorem Kp.weak {P Q : Nat → Prop} {w w' : World} (h : Kp P w w') (hq : ∀ b, Q b → P b) : Kp Q w w' := fun x hx => h x (hq x hx)
theorem Kp.cell {P : Nat → Prop} {w w' : World} (h : Kp P w w') {b o : Nat} (hb : P b) : w'.cell? ⟨b, o, none⟩ = w.cell? ⟨b, o, none⟩ := World.cell?_of_block (w := w) (a := ⟨b, o, none⟩) (h b hb)
theorem Kp.below {P : Nat → Prop} {w w' : World} (hb : Below w.heap.size w w') (pb : ∀ b, P b → b < w.heap.size) : Kp P w w' := fun x hx => hb.block x (pb x hx)
/-- At g lies a writer with the parts l; all of it was made since the world W; it owns no block of P. -/
structure Wr (P : Nat → Prop) (W w : World) (g : Nat) (l : List By) : Prop where
  ex : ∃ v r, w.cell? ⟨g, 0, none⟩ = some v ∧ w.frozen? ⟨g, 0, none⟩ = false ∧ OwnV w v (strs l) r ∧ (∀ x, r = some x → W.heap.size ≤ x ∧ ¬ P x) ∧ r ≠ some g
  ge : W.heap.size ≤ g
  np : ¬ P g
  bel : Below W.heap.size W w
  pb : ∀ b, P b → b < w.heap.size
theorem Wr.lt {P : Nat → Prop} {W w : World} {g : Nat} {l : List By} (h : Wr P W w g l) : g < w.heap.size := by
  obtain ⟨v, r, h1, _⟩ := h.ex
  exact cell_lt h1
theorem Wr.later {P : Nat → Prop} {W w w' : World} {g : Nat} {l : List By} (h : Wr P W w g l) (hb : Below w.heap.size w w') : Wr P W w' g l := by
  obtain ⟨v, r, h1, h2, h3, h4, h5⟩ := h.ex
  exact ⟨⟨v, r, (hb.cell (cell_lt h1)).trans h1, (hb.frozen (cell_lt h1)).trans h2, ownV_later h3 hb, h4, h5⟩, h.ge, h.np, below_on h.bel hb, fun b k => Nat.lt_of_lt_of_le (h.pb b k) hb.size⟩
theorem Wr.kp {P : Nat → Prop} {W w w' : World} {g : Nat} {l : List By} (h : Wr P W w g l) (hb : Below w.heap.size w w') : Kp P w w' := Kp.below hb h.pb
theorem Wr.weak {P Q : Nat → Prop} {W w : World} {g : Nat} {l : List By} (h : Wr P W w g l) (hq : ∀ b, Q b → P b) : Wr Q W w g l := by
  obtain ⟨v, r, h1, h2, h3, h4, h5⟩ := h.ex
  exact ⟨⟨v, r, h1, h2, h3, fun x e => ⟨(h4 x e).1, fun k => (h4 x e).2 (hq x k)⟩, h5⟩, h.ge, fun k => h.np (hq g k), h.bel, fun b k => h.pb b (hq b k)⟩
/-- A new block is none of the writer's. -/
theorem Wr.guard {P : Nat → Prop} {W w w' : World} {g : Nat} {l : List By} (h : Wr P W w g l) (hb : Below w.heap.size w w') {X : Nat} (h1 : w.heap.size ≤ X) (h2 : X < w'.heap.size) : Wr (fun b => P b ∨ b = X) W w' g l := by
  have hg := h.lt
  obtain ⟨v, r, k1, k2, k3, k4, k5⟩ := h.ex
  refine ⟨⟨v, r, (hb.cell (cell_lt k1)).trans k1, (hb.frozen (cell_lt k1)).trans k2, ownV_later k3 hb, fun x e => ⟨(k4 x e).1, ?_⟩, k5⟩, h.ge, ?_, below_on h.bel hb, ?_⟩
  · rintro (k | k)
    · exact (k4 x e).2 k
    · subst e
      have := k3.lt
      omega
  · rintro (k | k)
    · exact h.np k
    · omega
  · rintro b (k | k)
    · exact Nat.lt_of_lt_of_le (h.pb b k) hb.size
    · omega
theorem Wr.drew {P : Nat → Prop} {W w : World} {g : Nat} {l : List By} (h : Wr P W w g l) : Wr P W w.drew g l := h.later (Below.refl _ w).drew
/-- One part more. -/
theorem Wr.put {P : Nat → Prop} {W w w1 w' : World} {g g' : Nat} {l : List By} {s : By} {v v' : Value} {r : Option Nat} (h : Wr P W w g l) (hb : Below w.heap.size w w1) (h1 : w.cell? ⟨g, 0, none⟩ = some v) (h2 : w.frozen? ⟨g, 0, none⟩ = false) (h4 : ∀ x, r = some x → W.heap.size ≤ x ∧ ¬ P x) (h5 : r ≠ some g)
    (ho : OwnV w' v' (strs l ++ [.string (ba s)]) (some g')) (hg : w1.grownBy w' r) (hr : some g' = r ∨ g' = w1.heap.size) : (w'.cell? ⟨g, 0, none⟩ = some v ∧ w'.frozen? ⟨g, 0, none⟩ = false) ∧ Wr P W (w'.setCell ⟨g, 0, none⟩ v') g (l ++ [s]) ∧ Kp P w (w'.setCell ⟨g, 0, none⟩ v') := by
  have hge := h.ge
  have hW := h.bel
  have hgl : g < w.heap.size := cell_lt h1
  have hne : g' ≠ g := by
    rcases hr with e | e
    · intro e2; rw [e2] at e; exact h5 e.symm
    · have := hb.size; omega
  have k0 : Below W.heap.size W w' := (hW.trans (hb.mono hW.size)).grown hg (Nat.le_trans hW.size hb.size) (fun k e => (h4 k e).1)
  have c1 : w1.cell? ⟨g, 0, none⟩ = some v := (hb.cell hgl).trans h1
  have c2 : w1.frozen? ⟨g, 0, none⟩ = false := (hb.frozen hgl).trans h2
  have c3 : w'.heap[g]? = w1.heap[g]? := hg.block g (Nat.lt_of_lt_of_le hgl hb.size) (by first | exact h5 | exact (fun e => h5 e.symm))
  have c4 : w'.cell? ⟨g, 0, none⟩ = some v := (World.cell?_of_block (w := w1) c3).trans c1
  have c5 : w'.frozen? ⟨g, 0, none⟩ = false := (World.frozen?_of_block (w := w1) c3).trans c2
  have hpg' : ¬ P g' := fun k => by
    rcases hr with e | e
    · exact (h4 _ e.symm).2 k
    · have := h.pb _ k; have := hb.size; omega
  have hsz := (grow_setCells w' g 0 [v']).size
  have hgs := hg.size
  have hbs := hb.size
  refine ⟨⟨c4, c5⟩, ⟨⟨v', some g', ?_, ?_, ?_, ?_, ?_⟩, hge, h.np, k0.setCell hge v', fun b k => ?_⟩, fun b k => ?_⟩
  · exact World.cell?_setCell_same _ _ _ c4
  · rw [World.frozen?_setCell]; exact c5
  · rw [strs_app]
    exact ho.of_block (grow_setCells w' g 0 [v']).size (fun x e => Below.heap_setCell w' ⟨g, 0, none⟩ v' x (by cases e; exact hne))
  · intro x hx
    cases hx
    refine ⟨?_, hpg'⟩
    rcases hr with e | e
    · exact (h4 _ e.symm).1
    · have := hb.size; have := hW.size; omega
  · intro e; cases e; exact hne rfl
  · exact Nat.lt_of_lt_of_le (h.pb b k) (Nat.le_trans hbs (Nat.le_trans hgs hsz))
  · have hbg : b ≠ g := fun e => h.np (e ▸ k)
    have hbr : r ≠ some b := fun e => (h4 b e).2 k
    exact (Below.heap_setCell w' ⟨g, 0, none⟩ v' b hbg).trans ((hg.block b (Nat.lt_of_lt_of_le (h.pb b k) hbs) (by first | exact hbr | exact (fun e => hbr e.symm))).trans (hb.block b (h.pb b k)))
set_option maxHeartbeats 4000000 in
set_option maxRecDepth 100000 in
theorem wordOf (s : By) (P : Nat → Prop) (W w : World) (g : Nat) (l : List By) (h : Wr P W w g l) (hl : l.length ≤ 8796093022000) :
    Calls Tryz.prog 22 #[.pointer (some ⟨g, 0, none⟩), .string (ba s)] w fun e w' => e = .returned (.tuple #[]) ∧ Wr P W w' g (l ++ [s]) ∧ Kp P w w' := by
  obtain ⟨v, r, h1, h2, h3, h4, h5⟩ := h.ex
  have hb1 : Below w.heap.size w (w.alloc (.cells #[.string (ba s)] 9)) := (Below.refl _ w).alloc (Nat.le_refl _) _
  go_enter Tryz.func22, Tryz.ntmps22
  go_wp2_with (at_builtin; refine wpList_append_txs (w.alloc (.cells #[.string (ba s)] 9)) rfl _ _ rfl v _ (strs l) [.string (ba s)] r rfl rfl ?hOwn ?hSrc ?hLen ?hR ?_)
  case hOwn => exact ownV_later h3 hb1
  case hSrc => exact srcTx w (ba s)
  case hLen => rw [strs_len]; simp; omega
  case hR => exact .inr (by simp)
  intro v' w' g' ho hg hr
  have hr' : some g' = r ∨ g' = (w.alloc (.cells #[.string (ba s)] 9)).heap.size := by
    rcases hr with e | e
    · exact .inl e
    · right; rw [e]; simp
  clear hr
  obtain ⟨⟨k1, k2⟩, k3⟩ := Wr.put (s := s) h hb1 h1 h2 h4 h5 ho hg hr'
  obtain ⟨a3, c3, rfl, _, _⟩ := ho.shape
  clear ho hg hr'
  go_wp2
  go_end0
  exact ⟨rfl, by simpa using k3⟩
end Go.Proofs.YtlnppgjppfkocaaGreatDoor.Xs

/-! What the program's writer writes, plainly: words by number, trimmed texts, joined parts. -/
namespace Go.Proofs.YtlnppgjppfkocaaGreatDoor.Xs
set_option linter.unusedVariables false
set_option linter.unusedSimpArgs false

/-- The words of a table that has none for 0. -/
def opsL : List By := [] :: oW ++ List.replicate 48 [] ++ [delW]
def kindsL : List By := [[], valueW, tombW]
/-- What named tells. -/
def namedL (ws : List By) (n : Int) (p : By) : By := if 0 ≤ n ∧ n < ws.length ∧ ws.getD n.toNat [] ≠ [] then ws.getD n.toNat [] else p ++ Lib.itoa n
theorem opsL_len : opsL.length = 65 := by decide +kernel
theorem named_op (n : Int) : namedL opsL n opP = opT n := by
  unfold namedL opT
  rw [opsL_len]
  by_cases h1 : 1 ≤ n ∧ n ≤ 15
  · have key : ∀ i : Fin 15, opsL.getD (i.val + 1) [] = oW.getD i.val [] ∧ oW.getD i.val [] ≠ [] := by decide +kernel
    obtain ⟨k1, k2⟩ := key ⟨n.toNat - 1, by omega⟩
    have e : n.toNat - 1 + 1 = n.toNat := by omega
    simp only [e] at k1 k2
    rw [if_pos h1, if_pos ⟨by omega, by omega, by rw [k1]; exact k2⟩, k1]
  · rw [if_neg h1]
    by_cases h2 : n = 64
    · subst h2
      rw [if_pos rfl, if_pos ⟨by omega, by omega, by decide +kernel⟩]
      decide +kernel
    · rw [if_neg h2, if_neg]
      rintro ⟨a, b, c⟩
      have key : ∀ i : Fin 65, i.val = 64 ∨ (1 ≤ i.val ∧ i.val ≤ 15) ∨ opsL.getD i.val [] = [] := by decide +kernel
      rcases key ⟨n.toNat, by omega⟩ with k | k | k
      · simp only at k; omega
      · simp only at k; exact h1 (by omega)
      · exact c k
theorem named_code (n : Int) : namedL cW n codeP = codeT n := by
  unfold namedL codeT
  have hl : cW.length = 12 := by decide +kernel
  rw [hl]
  by_cases h : 0 ≤ n ∧ n < 12
  · have key : ∀ i : Fin 12, cW.getD i.val [] ≠ [] := by decide +kernel
    rw [if_pos h, if_pos ⟨h.1, by omega, key ⟨n.toNat, by omega⟩⟩]
  · rw [if_neg h, if_neg]
    rintro ⟨a, b, _⟩
    exact h (by omega)
theorem named_kind (n : Int) : namedL kindsL n kindP = kindT n := by
  unfold namedL kindT
  have hl : kindsL.length = 3 := by decide
  rw [hl]
  by_cases h1 : n = 1
  · subst h1; rw [if_pos rfl, if_pos ⟨by omega, by omega, by decide⟩]; decide
  · rw [if_neg h1]
    by_cases h2 : n = 2
    · subst h2; rw [if_pos rfl, if_pos ⟨by omega, by omega, by decide⟩]; decide
    · rw [if_neg h2, if_neg]
      rintro ⟨a, b, c⟩
      have : n = 0 := by omega
      subst this
      exact c (by decide)

/-! ### Trimmed texts -/
def plainB : By := [97, 98, 99, 100, 101, 102, 103, 104, 105, 106, 107, 108, 109, 110, 111, 112, 113, 114, 115, 116, 117, 118, 119, 120, 121, 122, 65, 66, 67, 68, 69, 70, 71, 72, 73, 74, 75, 76, 77, 78, 79, 80, 81, 82, 83, 84, 85, 86, 87, 88, 89, 90, 48, 49, 50, 51, 52, 53, 54, 55, 56, 57, 46, 95, 45]
theorem plain_has : ∀ c : UInt8, plainB.contains c = plB c := all256 (by decide +kernel)
theorem dropWhile_nil {α : Type} (p : α → Bool) : ∀ (l : List α), l.dropWhile p = [] ↔ l.all p = true
  | [] => by simp
  | x :: l => by
    cases h : p x
    · simp [List.dropWhile, h]
    · simpa [List.dropWhile, h] using dropWhile_nil p l
theorem drop_all {α : Type} (p : α → Bool) : ∀ (l : List α), (l.dropWhile p).all p = l.all p
  | [] => rfl
  | x :: l => by
    cases h : p x
    · simp [List.dropWhile, h]
    · simpa [List.dropWhile, h] using drop_all p l
theorem trim_nil (s : By) : Lib.trimS s plainB = [] ↔ s.all plB = true := by
  unfold Lib.trimS Lib.trimLeftS Lib.trimRightS
  have e : (fun c : UInt8 => plainB.contains c) = plB := funext plain_has
  rw [e, dropWhile_nil, List.all_reverse, drop_all, List.all_reverse]

/-! ### Joined parts -/
theorem join_tail (ps : List By) : Lib.joinTail [32] ps = ps.flatMap (fun x => 32 :: x) := by
  induction ps with
  | nil => rfl
  | cons x ps ih => rw [List.flatMap_cons, ← ih]; simp [Lib.joinTail]
theorem join_is (p : By) (ps : List By) : Lib.join (p :: ps) [32] = joinL p ps := by
  rw [Lib.join_cons, join_tail]; rfl
end Go.Proofs.YtlnppgjppfkocaaGreatDoor.Xs
