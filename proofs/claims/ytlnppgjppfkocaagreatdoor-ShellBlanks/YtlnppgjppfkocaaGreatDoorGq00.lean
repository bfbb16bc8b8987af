import Derived.Lib.ItoaNum
/-! Lines: how numbers, texts, commands and responses are written, plainly; a line is cut into its parts in one way. -/
namespace Go.Proofs.YtlnppgjppfkocaaGreatDoor.Xs
set_option linter.unusedVariables false
set_option linter.unusedSimpArgs false

abbrev By := List UInt8
def oW : List By := [[112, 105, 110, 103], [99, 114, 101, 97, 116, 101], [100, 114, 111, 112], [108, 105, 115, 116], [112, 117, 116], [100, 101, 108, 101, 116, 101], [103, 101, 116], [114, 101, 112, 108, 97, 121], [115, 110, 97, 112, 115, 104, 111, 116], [115, 117, 98, 115, 99, 114, 105, 98, 101], [117, 110, 115, 117, 98, 115, 99, 114, 105, 98, 101], [106, 111, 105, 110], [99, 111, 109, 109, 105, 116], [112, 111, 115, 105, 116, 105, 111, 110], [115, 116, 97, 116]]
def cW : List By := [[111, 107], [98, 97, 100, 45, 114, 101, 113, 117, 101, 115, 116], [110, 111, 45, 116, 111, 112, 105, 99], [101, 120, 105, 115, 116, 115], [102, 117, 108, 108], [111, 102, 102, 115, 101, 116, 115], [104, 111, 114, 105, 122, 111, 110, 45, 112, 97, 115, 115, 101, 100], [116, 104, 114, 111, 116, 116, 108, 101, 100], [115, 101, 113, 117, 101, 110, 99, 101], [116, 111, 111, 45, 109, 97, 110, 121], [110, 111, 45, 115, 117, 99, 104], [98, 101, 121, 111, 110, 100]]
def vW : List By := [[111, 112, 101, 110], [115, 104, 117, 116], [115, 97, 121], [114, 97, 119], [116, 105, 99, 107], [115, 116, 101, 112, 115], [116, 97, 107, 101], [102, 117, 115, 101], [99, 114, 97, 115, 104], [99, 104, 101, 99, 107], [115, 116, 97, 116, 101]]
def delW : By := [100, 101, 108, 105, 118, 101, 114]
def opP : By := [111, 112]
def codeP : By := [99, 111, 100, 101]
def moreW : By := [109, 111, 114, 101]
def lastW : By := [108, 97, 115, 116]
def nameW : By := [110, 97, 109, 101]
def valueW : By := [118, 97, 108, 117, 101]
def tombW : By := [116, 111, 109, 98, 115, 116, 111, 110, 101]
def kindP : By := [107, 105, 110, 100]
def opT (op : Int) : By := if 1 ≤ op ∧ op ≤ 15 then oW.getD (op.toNat - 1) [] else if op = 64 then delW else opP ++ Lib.itoa op
def codeT (c : Int) : By := if 0 ≤ c ∧ c < 12 then cW.getD c.toNat [] else codeP ++ Lib.itoa c
def verbT (v : Int) : By := if 0 ≤ v ∧ v < 11 then vW.getD v.toNat [] else []
def kindT (k : Int) : By := if k = 1 then valueW else if k = 2 then tombW else kindP ++ Lib.itoa k

/-- May the byte stand in a text that is written as itself? -/
def plB (c : UInt8) : Bool := (decide (97 ≤ c.toNat) && decide (c.toNat ≤ 122)) || (decide (65 ≤ c.toNat) && decide (c.toNat ≤ 90)) || (decide (48 ≤ c.toNat) && decide (c.toNat ≤ 57)) || decide (c.toNat = 46) || decide (c.toNat = 95) || decide (c.toNat = 45)
def hxD (n : Nat) : UInt8 := if n < 10 then UInt8.ofNat (48 + n) else UInt8.ofNat (87 + n)
def hxB (c : UInt8) : By := [hxD (c.toNat / 16), hxD (c.toNat % 16)]
def esc (c : UInt8) : By := if c = 34 then [92, 34] else if c = 92 then [92, 92] else if 32 ≤ c.toNat ∧ c.toNat ≤ 126 then [c] else 92 :: 120 :: hxB c
def txt (s : By) : By := if s ≠ [] ∧ s.all plB = true then s else 34 :: (s.flatMap esc ++ [34])
def rawT (l : By) : By := if l = [] then [45] else l.flatMap hxB

/-! ### Parts -/
/-- Cut at blanks that do not stand between quotes; cur: the part so far. -/
def cutL : Bool → By → By → List By
  | _, cur, [] => [cur]
  | q, cur, [c] => if c = 34 ∨ q = true ∨ c ≠ 32 then [cur ++ [c]] else [cur, []]
  | q, cur, c :: d :: r =>
    if q = true ∧ c = 92 then cutL q (cur ++ [c, d]) r
    else if c = 34 then cutL (!q) (cur ++ [c]) (d :: r)
    else if c = 32 ∧ q = false then cur :: cutL false [] (d :: r)
    else cutL q (cur ++ [c]) (d :: r)

theorem cut_nil (q : Bool) (cur : By) : cutL q cur [] = [cur] := by rw [cutL]
theorem cut_one (q : Bool) (cur : By) (c : UInt8) : cutL q cur [c] = if c = 34 ∨ q = true ∨ c ≠ 32 then [cur ++ [c]] else [cur, []] := by
  rw [cutL]
theorem cut_esc (cur : By) (d : UInt8) (r : By) : cutL true cur (92 :: d :: r) = cutL true (cur ++ [92, d]) r := by
  rw [cutL, if_pos ⟨rfl, rfl⟩]
theorem cut_quote (cur r : By) : cutL false cur (34 :: r) = cutL true (cur ++ [34]) r := by
  cases r with
  | nil => rw [cut_one, if_pos (Or.inl rfl), cut_nil]
  | cons d r => rw [cutL, if_neg (by simp), if_pos rfl]; rfl
theorem cut_unquote (cur r : By) : cutL true cur (34 :: r) = cutL false (cur ++ [34]) r := by
  cases r with
  | nil => rw [cut_one, if_pos (Or.inl rfl), cut_nil]
  | cons d r => rw [cutL, if_neg (by decide), if_pos rfl]; rfl
theorem cut_blank (cur r : By) : cutL false cur (32 :: r) = cur :: cutL false [] r := by
  cases r with
  | nil => rw [cut_one, if_neg (by decide), cut_nil]
  | cons d r => rw [cutL, if_neg (by simp), if_neg (by decide), if_pos ⟨rfl, rfl⟩]
theorem cut_in (cur r : By) (c : UInt8) (h : c ≠ 34) (h2 : c ≠ 92) : cutL true cur (c :: r) = cutL true (cur ++ [c]) r := by
  cases r with
  | nil => rw [cut_one, if_pos (Or.inr (Or.inl rfl)), cut_nil]
  | cons d r => rw [cutL, if_neg (fun e => h2 e.2), if_neg h, if_neg (by simp)]
theorem cut_out (cur r : By) (c : UInt8) (h : c ≠ 34) (h2 : c ≠ 32) : cutL false cur (c :: r) = cutL false (cur ++ [c]) r := by
  cases r with
  | nil => rw [cut_one, if_pos (Or.inr (Or.inr h2)), cut_nil]
  | cons d r => rw [cutL, if_neg (by simp), if_neg h, if_neg (fun e => h2 e.1)]

/-- A part that is not cut, whatever stands behind it. -/
def Tok (l : By) : Prop := ∀ cur r, cutL false cur (l ++ r) = cutL false (cur ++ l) r
theorem Tok.app {a b : By} (ha : Tok a) (hb : Tok b) : Tok (a ++ b) := fun cur r => by
  rw [List.append_assoc, ha, hb, List.append_assoc]
theorem tok_of : ∀ (l : By), (∀ c ∈ l, c ≠ 34 ∧ c ≠ 32) → Tok l
  | [], _ => fun cur r => by simp
  | c :: l, h => fun cur r => by
    have hc := h c (by simp)
    rw [List.cons_append, cut_out cur (l ++ r) c hc.1 hc.2, tok_of l (fun d hd => h d (by simp [hd]))]
    simp
theorem esc_cut : ∀ (c : UInt8) (cur r : By), cutL true cur (esc c ++ r) = cutL true (cur ++ esc c) r := by
  intro c cur r
  unfold esc
  by_cases h1 : c = 34
  · rw [if_pos h1]; exact cut_esc cur 34 r
  · rw [if_neg h1]
    by_cases h2 : c = 92
    · rw [if_pos h2]; exact cut_esc cur 92 r
    · rw [if_neg h2]
      split
      · exact cut_in cur r c h1 h2
      · have hh : ∀ c : UInt8, hxD (c.toNat / 16) ≠ 34 ∧ hxD (c.toNat / 16) ≠ 92 ∧ hxD (c.toNat % 16) ≠ 34 ∧ hxD (c.toNat % 16) ≠ 92 := by
          have : ∀ i : Fin 256, (fun c : UInt8 => hxD (c.toNat / 16) ≠ 34 ∧ hxD (c.toNat / 16) ≠ 92 ∧ hxD (c.toNat % 16) ≠ 34 ∧ hxD (c.toNat % 16) ≠ 92) (UInt8.ofNat i.val) := by decide +kernel
          intro c
          have := this ⟨c.toNat, c.toNat_lt⟩
          simpa using this
        obtain ⟨a1, a2, a3, a4⟩ := hh c
        show cutL true cur (92 :: 120 :: hxD (c.toNat / 16) :: hxD (c.toNat % 16) :: r) = _
        rw [cut_esc, cut_in _ _ _ a1 a2, cut_in _ _ _ a3 a4]
        simp [hxB]
theorem escs_cut : ∀ (s : By) (cur r : By), cutL true cur (s.flatMap esc ++ r) = cutL true (cur ++ s.flatMap esc) r
  | [], cur, r => by simp
  | c :: s, cur, r => by
    rw [List.flatMap_cons, List.append_assoc, esc_cut, escs_cut s]
    simp
theorem all256 {p : UInt8 → Prop} (h : ∀ i : Fin 256, p (UInt8.ofNat i.val)) (c : UInt8) : p c := by
  have := h ⟨c.toNat, c.toNat_lt⟩
  simpa using this
theorem pl_ne : ∀ c : UInt8, plB c = true → c ≠ 34 ∧ c ≠ 32 := all256 (by decide +kernel)
theorem txt_tok (s : By) : Tok (txt s) := by
  unfold txt
  split
  case isTrue h => exact tok_of s fun c hc => pl_ne c (List.all_eq_true.1 h.2 c hc)
  case isFalse h =>
    intro cur r
    rw [List.cons_append, cut_quote, List.append_assoc, escs_cut, List.singleton_append, cut_unquote]
    simp

theorem dec_dig : ∀ (n : Nat), ∀ c ∈ Lib.decDigits n, 48 ≤ c.toNat ∧ c.toNat ≤ 57 := by
  intro n
  induction n using Nat.strongRecOn with
  | _ n ih =>
    have hd : ∀ m, m < 10 → 48 ≤ (UInt8.ofNat (48 + m)).toNat ∧ (UInt8.ofNat (48 + m)).toNat ≤ 57 := fun m hm => by
      rw [UInt8.toNat_ofNat_of_lt' (by show 48 + m < 256; omega)]; omega
    intro c hc
    by_cases h : n < 10
    · rw [Lib.decDigits, dif_pos h] at hc
      rw [List.mem_singleton.1 hc]; exact hd n h
    · rw [Lib.decDigits, dif_neg h] at hc
      rcases List.mem_append.1 hc with hc | hc
      · exact ih (n / 10) (by omega) c hc
      · rw [List.mem_singleton.1 hc]; exact hd _ (by omega)
theorem dec_nonempty (n : Nat) : Lib.decDigits n ≠ [] := by
  by_cases h : n < 10
  · rw [Lib.decDigits, dif_pos h]; simp
  · rw [Lib.decDigits, dif_neg h]; simp
theorem itoa_sign (n : Int) : ∀ c ∈ Lib.itoa n, (48 ≤ c.toNat ∧ c.toNat ≤ 57) ∨ c.toNat = 45 := by
  intro c hc
  unfold Lib.itoa at hc
  split at hc
  · rcases List.mem_cons.1 hc with h | h
    · right; rw [h]; rfl
    · left; exact dec_dig _ c h
  · left; exact dec_dig _ c hc
theorem itoa_nonempty (n : Int) : Lib.itoa n ≠ [] := by
  unfold Lib.itoa
  split
  · simp
  · exact dec_nonempty _
theorem itoa_tok (n : Int) : Tok (Lib.itoa n) := tok_of _ fun c hc => by
  rcases itoa_sign n c hc with h | h
  · exact ⟨fun e => by subst e; simp at h, fun e => by subst e; simp at h⟩
  · exact ⟨fun e => by subst e; simp at h, fun e => by subst e; simp at h⟩

/-- Parts with one blank between each two. -/
def joinL (p : By) (ps : List By) : By := p ++ ps.flatMap (fun x => 32 :: x)
theorem cut_joins : ∀ (ps : List By) (cur : By), (∀ x ∈ ps, Tok x) → cutL false cur (ps.flatMap (fun x => 32 :: x)) = cur :: ps
  | [], cur, _ => by simp [cut_nil]
  | x :: ps, cur, h => by
    rw [List.flatMap_cons, List.cons_append, cut_blank, h x (by simp), cut_joins ps _ (fun y hy => h y (by simp [hy]))]
    simp
theorem cut_join (p : By) (ps : List By) (hp : Tok p) (h : ∀ x ∈ ps, Tok x) : cutL false [] (joinL p ps) = p :: ps := by
  unfold joinL
  rw [hp, cut_joins ps _ h]; rfl
theorem join_inj {p q : By} {ps qs : List By} (hp : Tok p) (hq : Tok q) (h : ∀ x ∈ ps, Tok x) (k : ∀ x ∈ qs, Tok x) (e : joinL p ps = joinL q qs) : p = q ∧ ps = qs := by
  have := cut_join p ps hp h
  rw [e, cut_join q qs hq k] at this
  exact ⟨(List.cons.inj this).1.symm, (List.cons.inj this).2.symm⟩

/-! ### Numbers, texts, bytes: each has one way -/
def dvL (l : By) : Nat := l.foldl (fun a c => a * 10 + (c.toNat - 48)) 0
theorem dv_dec (n : Nat) : dvL (Lib.decDigits n) = n := by
  induction n using Nat.strongRecOn with
  | _ n ih =>
    by_cases h : n < 10
    · rw [Lib.decDigits, dif_pos h]
      show 0 * 10 + ((UInt8.ofNat (48 + n)).toNat - 48) = n
      rw [UInt8.toNat_ofNat_of_lt' (by show 48 + n < 256; omega)]; omega
    · rw [Lib.decDigits, dif_neg h]
      unfold dvL
      rw [List.foldl_append]
      show dvL (Lib.decDigits (n / 10)) * 10 + ((UInt8.ofNat (48 + n % 10)).toNat - 48) = n
      rw [ih _ (by omega), UInt8.toNat_ofNat_of_lt' (by show 48 + n % 10 < 256; omega)]; omega
theorem dec_head (n : Nat) : (Lib.decDigits n).head? ≠ some 45 := fun e => by
  have hm : (45 : UInt8) ∈ Lib.decDigits n := List.mem_of_head? e
  have := dec_dig n 45 hm
  simp at this
theorem itoa_inj {a b : Int} (h : Lib.itoa a = Lib.itoa b) : a = b := by
  unfold Lib.itoa at h
  by_cases ha : a < 0
  · rw [if_pos ha] at h
    by_cases hb : b < 0
    · rw [if_pos hb] at h
      have := congrArg dvL (List.cons.inj h).2
      rw [dv_dec, dv_dec] at this; omega
    · rw [if_neg hb] at h
      exact absurd (by rw [← h]; rfl) (dec_head b.toNat)
  · rw [if_neg ha] at h
    by_cases hb : b < 0
    · rw [if_pos hb] at h
      exact absurd (by rw [h]; rfl) (dec_head a.toNat)
    · rw [if_neg hb] at h
      have := congrArg dvL h
      rw [dv_dec, dv_dec] at this; omega

/-- What a digit is worth. -/
def hxV (c : UInt8) : Nat := if 97 ≤ c.toNat ∧ c.toNat ≤ 102 then c.toNat - 87 else if 48 ≤ c.toNat ∧ c.toNat ≤ 57 then c.toNat - 48 else 0
theorem hxV_D : ∀ i : Fin 16, hxV (hxD i.val) = i.val := by decide +kernel
theorem hx_back (c : UInt8) : UInt8.ofNat (hxV (hxD (c.toNat / 16)) * 16 + hxV (hxD (c.toNat % 16))) = c := by
  have h1 := hxV_D ⟨c.toNat / 16, by have := c.toNat_lt; omega⟩
  have h2 := hxV_D ⟨c.toNat % 16, by omega⟩
  simp only at h1 h2
  rw [h1, h2, show c.toNat / 16 * 16 + c.toNat % 16 = c.toNat by omega]
  simp
/-- The first byte of what was written of a text, and the rest. -/
def une : By → UInt8 × By
  | 92 :: 120 :: a :: b :: r => (UInt8.ofNat (hxV a * 16 + hxV b), r)
  | 92 :: c :: r => (c, r)
  | c :: r => (c, r)
  | [] => (0, [])
theorem une_esc (c : UInt8) (r : By) : une (esc c ++ r) = (c, r) := by
  unfold esc
  by_cases h1 : c = 34
  · rw [if_pos h1, h1]; rfl
  · rw [if_neg h1]
    by_cases h2 : c = 92
    · rw [if_pos h2, h2]; rfl
    · rw [if_neg h2]
      split
      · show une (c :: r) = _
        unfold une
        split
        · rename_i heq; exact absurd (List.cons.inj heq).1 h2
        · rename_i heq; exact absurd (List.cons.inj heq).1 h2
        · rename_i heq; rw [(List.cons.inj heq).1, (List.cons.inj heq).2]
        · rename_i heq; cases heq
      · show une (92 :: 120 :: hxD (c.toNat / 16) :: hxD (c.toNat % 16) :: r) = _
        show (UInt8.ofNat (hxV (hxD (c.toNat / 16)) * 16 + hxV (hxD (c.toNat % 16))), r) = _
        rw [hx_back]
theorem esc_ne (c : UInt8) : esc c ≠ [] := by
  unfold esc
  split
  · simp
  · split
    · simp
    · split <;> simp
theorem esc_head : ∀ c : UInt8, (esc c).head? ≠ some 34 := all256 (by decide +kernel)
theorem escs_inj : ∀ (s t : By), s.flatMap esc ++ [34] = t.flatMap esc ++ [34] → s = t
  | [], [], _ => rfl
  | [], d :: t, h => by
    exfalso
    have := congrArg List.head? h
    rw [List.flatMap_cons] at this
    have hd := esc_head d
    have hn := esc_ne d
    cases he : esc d with
    | nil => exact hn he
    | cons x y => rw [he] at this hd; simp at this; exact hd (by simp [← this])
  | c :: s, [], h => by
    exfalso
    have := congrArg List.head? h
    rw [List.flatMap_cons] at this
    have hd := esc_head c
    have hn := esc_ne c
    cases he : esc c with
    | nil => exact hn he
    | cons x y => rw [he] at this hd; simp at this; exact hd (by simp [this])
  | c :: s, d :: t, h => by
    rw [List.flatMap_cons, List.flatMap_cons, List.append_assoc, List.append_assoc] at h
    have := congrArg une h
    rw [une_esc, une_esc] at this
    have h2 := (Prod.mk.inj this).2
    rw [(Prod.mk.inj this).1, escs_inj s t h2]
theorem txt_inj {s t : By} (h : txt s = txt t) : s = t := by
  unfold txt at h
  have key : ∀ (a b : By), (a ≠ [] ∧ a.all plB = true) → a = 34 :: (b.flatMap esc ++ [34]) → False := fun a b ha e => by
    have : (34 : UInt8) ∈ a := by rw [e]; simp
    exact (pl_ne 34 (List.all_eq_true.1 ha.2 34 this)).1 rfl
  by_cases hs : s ≠ [] ∧ s.all plB = true
  · rw [if_pos hs] at h
    by_cases ht : t ≠ [] ∧ t.all plB = true
    · rw [if_pos ht] at h; exact h
    · rw [if_neg ht] at h; exact (key _ _ hs h).elim
  · rw [if_neg hs] at h
    by_cases ht : t ≠ [] ∧ t.all plB = true
    · rw [if_pos ht] at h; exact (key _ _ ht h.symm).elim
    · rw [if_neg ht] at h; exact escs_inj s t (List.cons.inj h).2
theorem hxB_inj {c d : UInt8} (h : hxB c = hxB d) : c = d := by
  unfold hxB at h
  have h1 := (List.cons.inj h).1
  have h2 := (List.cons.inj (List.cons.inj h).2).1
  rw [← hx_back c, h1, h2, hx_back]
theorem hxs_inj : ∀ (s t : By), s.flatMap hxB = t.flatMap hxB → s = t
  | [], [], _ => rfl
  | [], d :: t, h => by simp [hxB] at h
  | c :: s, [], h => by simp [hxB] at h
  | c :: s, d :: t, h => by
    rw [List.flatMap_cons, List.flatMap_cons] at h
    have := List.append_inj h rfl
    rw [hxB_inj this.1, hxs_inj s t this.2]
theorem raw_inj {s t : By} (h : rawT s = rawT t) : s = t := by
  unfold rawT at h
  have key : ∀ (a : By), a ≠ [] → ([45] : By) ≠ a.flatMap hxB := fun a ha e => by
    cases a with
    | nil => exact ha rfl
    | cons c a => simp [hxB] at e
  by_cases hs : s = []
  · rw [if_pos hs] at h
    by_cases ht : t = []
    · rw [hs, ht]
    · rw [if_neg ht] at h; exact (key _ ht h).elim
  · rw [if_neg hs] at h
    by_cases ht : t = []
    · rw [if_pos ht] at h; exact (key _ hs h.symm).elim
    · rw [if_neg ht] at h; exact hxs_inj s t h

/-! ### Visible bytes -/
def Vis (l : By) : Prop := ∀ c ∈ l, 32 ≤ c.toNat ∧ c.toNat ≤ 126
theorem Vis.app {a b : By} (ha : Vis a) (hb : Vis b) : Vis (a ++ b) := fun c hc => by
  rcases List.mem_append.1 hc with h | h
  · exact ha c h
  · exact hb c h
theorem Vis.cons {c : UInt8} {b : By} (hc : 32 ≤ c.toNat ∧ c.toNat ≤ 126) (hb : Vis b) : Vis (c :: b) := fun d hd => by
  rcases List.mem_cons.1 hd with h | h
  · rw [h]; exact hc
  · exact hb d h
theorem vis_nil : Vis [] := fun c hc => by cases hc
theorem itoa_vis (n : Int) : Vis (Lib.itoa n) := fun c hc => by
  rcases itoa_sign n c hc with h | h <;> omega
theorem hx_vis (c : UInt8) : Vis (hxB c) := by
  have : ∀ c : UInt8, ∀ d ∈ hxB c, 32 ≤ d.toNat ∧ d.toNat ≤ 126 := all256 (by decide +kernel)
  exact this c
theorem esc_vis (c : UInt8) : Vis (esc c) := by
  have : ∀ c : UInt8, ∀ d ∈ esc c, 32 ≤ d.toNat ∧ d.toNat ≤ 126 := all256 (by decide +kernel)
  exact this c
theorem flat_vis {f : UInt8 → By} (h : ∀ c, Vis (f c)) (l : By) : Vis (l.flatMap f) := fun c hc => by
  obtain ⟨a, _, ha⟩ := List.mem_flatMap.1 hc
  exact h a c ha
theorem pl_vis : ∀ c : UInt8, plB c = true → 32 ≤ c.toNat ∧ c.toNat ≤ 126 := all256 (by decide +kernel)
theorem txt_vis (s : By) : Vis (txt s) := by
  unfold txt
  split
  case isTrue h => exact fun c hc => pl_vis c (List.all_eq_true.1 h.2 c hc)
  case isFalse h => exact Vis.cons (by decide) ((flat_vis esc_vis s).app (Vis.cons (by decide) vis_nil))
theorem raw_vis (s : By) : Vis (rawT s) := by
  unfold rawT
  split
  · exact Vis.cons (by decide) vis_nil
  · exact flat_vis hx_vis s
theorem join_vis {p : By} {ps : List By} (hp : Vis p) (h : ∀ x ∈ ps, Vis x) : Vis (joinL p ps) := by
  refine hp.app fun c hc => ?_
  obtain ⟨a, ha, hc⟩ := List.mem_flatMap.1 hc
  rcases List.mem_cons.1 hc with e | e
  · rw [e]; decide
  · exact h a ha c e
end Go.Proofs.YtlnppgjppfkocaaGreatDoor.Xs
