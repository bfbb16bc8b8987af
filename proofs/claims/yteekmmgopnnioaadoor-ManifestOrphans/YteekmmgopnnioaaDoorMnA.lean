import Derived.Lib.ItoaNum
import Derived.Lib.AtoiAll
import Derived.Lib.AtoiAllCases
import Derived.Lib.Bytealg
import Derived.Lib.Strings
/-! Names of files: what both Names and both Parses tell. -/
namespace Go.Proofs.YteekmmgopnnioaaDoor.Mn
set_option linter.unusedVariables false
set_option linter.unusedSimpArgs false

abbrev By := List UInt8
def isN (n : Int) : Bool := decide (0 ≤ n) && decide (n < 1073741824)
def isS (n : Int) : Bool := decide (1 ≤ n) && decide (n < 1073741824)
structure FN where
  kind : Int
  id : Int
  seg : Int
  tmp : Bool
def FN.zero : FN := ⟨0, 0, 0, false⟩
def dc (n : Int) : By := Lib.decDigits n.toNat
def tS : By := [46, 115, 101, 103]
def tH : By := [46, 104, 105, 110, 116]
def tM : By := [46, 109, 97, 110]
def catB : By := [99, 97, 116, 97, 108, 111, 103]
def tmpB : By := [46, 116, 109, 112]
def stemL (n : FN) : By :=
  if n.kind = 1 ∧ isN n.id = true ∧ isS n.seg = true then 116 :: (dc n.id ++ 46 :: (dc n.seg ++ tS))
  else if n.kind = 2 ∧ isN n.id = true ∧ isS n.seg = true then 116 :: (dc n.id ++ 46 :: (dc n.seg ++ tH))
  else if n.kind = 3 ∧ isN n.id = true ∧ n.seg = 0 then 116 :: (dc n.id ++ tM)
  else if n.kind = 4 ∧ n.id = 0 ∧ n.seg = 0 then catB
  else []
def nameL (n : FN) : By := if n.tmp = true ∧ stemL n ≠ [] then stemL n ++ tmpB else stemL n

/-- A number of the program's: what Atoi tells, whatever its error. -/
def num (l : By) : Int := match Lib.atoiAll l with
  | .ok v => v
  | .range => Lib.atoiSat l
  | _ => 0
def ix (l : By) : Int := Lib.indexByte l 46
/-- The parts between dots, at most three. -/
def parts (l : By) : List By :=
  if ix l < 0 then [l]
  else if ix (l.drop ((ix l).toNat + 1)) < 0 then [l.take (ix l).toNat, l.drop ((ix l).toNat + 1)]
  else [l.take (ix l).toNat, (l.drop ((ix l).toNat + 1)).take (ix (l.drop ((ix l).toNat + 1))).toNat, (l.drop ((ix l).toNat + 1)).drop ((ix (l.drop ((ix l).toNat + 1))).toNat + 1)]
def kindL (l : By) : Int := if l = [115, 101, 103] then 1 else if l = [104, 105, 110, 116] then 2 else if l = [109, 97, 110] then 3 else 0
def rdP (t : Bool) (p : List By) : FN := ⟨kindL (p.getD (p.length - 1) []), num (p.getD 0 []), if p.length = 3 then num (p.getD 1 []) else 0, t⟩
def rd (l : By) : FN :=
  if Lib.trimSuffix l tmpB = catB then ⟨4, 0, 0, Lib.hasSuffix l tmpB⟩
  else rdP (Lib.hasSuffix l tmpB) (parts (Lib.trimPrefix (Lib.trimSuffix l tmpB) [116]))
def parseL (l : By) : FN := if nameL (rd l) = l then rd l else FN.zero

def isD (c : UInt8) : Bool := decide (48 ≤ c.toNat) && decide (c.toNat ≤ 57)
def dgv : Nat → By → Nat
  | n, [] => n
  | n, c :: l => if isD c = true then dgv (min (n * 10 + (c.toNat - 48)) 1073741824) l else n
def dgn : By → Nat
  | [] => 0
  | c :: l => if isD c = true then dgn l + 1 else 0
def idL (l : By) : Nat := if l.head? = some 116 then dgv 0 (l.drop 1) else 0
def segL (l : By) : Nat := if l.head? = some 116 ∧ 1 + dgn (l.drop 1) < l.length then dgv 0 (l.drop (1 + dgn (l.drop 1) + 1)) else 0
def cand (l : By) (k : Int) (t : Bool) : FN := ⟨k, if k ≠ 4 then (idL l : Int) else 0, if k = 1 ∨ k = 2 then (segL l : Int) else 0, t⟩
def hit (l : By) (n : FN) : Prop := nameL n ≠ [] ∧ nameL n = l

theorem dec_lt {n : Nat} (h : n < 10) : Lib.decDigits n = [UInt8.ofNat (48 + n)] := by rw [Lib.decDigits, dif_pos h]
theorem dec_ge {n : Nat} (h : ¬ n < 10) : Lib.decDigits n = Lib.decDigits (n / 10) ++ [UInt8.ofNat (48 + n % 10)] := by rw [Lib.decDigits, dif_neg h]
theorem chr_of (m : Nat) (hm : m < 10) : (UInt8.ofNat (48 + m)).toNat = 48 + m := by
  rw [UInt8.toNat_ofNat']
  omega
theorem isD_chr {m : Nat} (hm : m < 10) : isD (UInt8.ofNat (48 + m)) = true := by
  unfold isD
  rw [chr_of m hm]
  simp; omega
theorem dec_isD : ∀ (f n : Nat), n < f → ∀ c ∈ Lib.decDigits n, isD c = true
  | 0, n, h => by omega
  | f + 1, n, h => by
    intro c hc
    by_cases h1 : n < 10
    · rw [dec_lt h1] at hc
      obtain rfl := List.mem_singleton.mp hc
      exact isD_chr h1
    · rw [dec_ge h1] at hc
      rcases List.mem_append.mp hc with hc | hc
      · exact dec_isD f (n / 10) (by omega) c hc
      · obtain rfl := List.mem_singleton.mp hc
        exact isD_chr (by omega)
theorem dec_dig {n : Nat} : ∀ c ∈ Lib.decDigits n, isD c = true := dec_isD (n + 1) n (by omega)
theorem dec_ne (n : Nat) : Lib.decDigits n ≠ [] := by
  by_cases h1 : n < 10
  · rw [dec_lt h1]; simp
  · rw [dec_ge h1]; simp
theorem isD_46 : isD 46 = false := by decide
theorem no46 {l : By} (h : ∀ c ∈ l, isD c = true) : ∀ c ∈ l, c ≠ 46 := fun c hc e => by
  have := h c hc
  rw [e, isD_46] at this
  cases this
theorem ix_none : ∀ {l : By}, (∀ c ∈ l, c ≠ 46) → ix l = -1
  | [], h => rfl
  | c :: l, h => by
    have ih : Lib.indexByte l 46 = -1 := ix_none (l := l) (fun x hx => h x (List.mem_cons_of_mem _ hx))
    have hc : (c == 46) = false := by simpa using h c (List.mem_cons_self ..)
    unfold ix
    rw [Lib.indexByte, hc, ih]
    rfl
theorem ix_some : ∀ {d r : By}, (∀ c ∈ d, c ≠ 46) → ix (d ++ 46 :: r) = (d.length : Int)
  | [], r, h => by
    unfold ix
    rw [List.nil_append, Lib.indexByte]
    simp
  | c :: d, r, h => by
    have ih : Lib.indexByte (d ++ 46 :: r) 46 = (d.length : Int) := ix_some (d := d) (fun x hx => h x (List.mem_cons_of_mem _ hx))
    have hc : (c == 46) = false := by simpa using h c (List.mem_cons_self ..)
    unfold ix
    rw [List.cons_append, Lib.indexByte, hc, ih]
    have hne : ((d.length : Int) == -1) = false := by
      rw [beq_eq_false_iff_ne]; omega
    rw [hne]
    simp
theorem parts_two {d e : By} (hd : ∀ c ∈ d, c ≠ 46) (he : ∀ c ∈ e, c ≠ 46) : parts (d ++ 46 :: e) = [d, e] := by
  have h1 := ix_some (r := e) hd
  have h2 := ix_none he
  have e1 : (d ++ 46 :: e).drop (d.length + 1) = e := by simp
  have e2 : (d ++ 46 :: e).take d.length = d := by simp
  unfold parts
  rw [h1, if_neg (by omega), Int.toNat_natCast, e1, h2, if_pos (by omega), e2]
theorem parts_three {d e f : By} (hd : ∀ c ∈ d, c ≠ 46) (he : ∀ c ∈ e, c ≠ 46) : parts (d ++ 46 :: (e ++ 46 :: f)) = [d, e, f] := by
  have h1 := ix_some (r := e ++ 46 :: f) hd
  have h2 := ix_some (r := f) he
  have e1 : (d ++ 46 :: (e ++ 46 :: f)).drop (d.length + 1) = e ++ 46 :: f := by simp
  have e2 : (d ++ 46 :: (e ++ 46 :: f)).take d.length = d := by simp
  have e3 : (e ++ 46 :: f).drop (e.length + 1) = f := by simp
  have e4 : (e ++ 46 :: f).take e.length = e := by simp
  unfold parts
  rw [h1, if_neg (by omega), Int.toNat_natCast, e1, h2, if_neg (by omega), e2, Int.toNat_natCast, e3, e4]

theorem pu_snoc : ∀ (l : By) (a u : Nat) (c : UInt8), Lib.parseUint10 a l = .ok u → isD c = true → u < 1000000000 → Lib.parseUint10 a (l ++ [c]) = .ok (u * 10 + (c.toNat - 48))
  | [], a, u, c, h, hc, hu => by
    rw [Lib.parseUint10] at h
    injection h with h
    subst h
    unfold isD at hc
    simp at hc
    rw [List.nil_append, Lib.parseUint10, if_pos hc, if_neg (by omega), if_neg (by omega), Lib.parseUint10]
  | x :: l, a, u, c, h, hc, hu => by
    rw [Lib.parseUint10] at h
    rw [List.cons_append, Lib.parseUint10]
    split at h
    · rename_i hx
      rw [if_pos hx]
      split at h
      · cases h
      · rename_i h1
        rw [if_neg h1]
        split at h
        · cases h
        · rename_i h2
          rw [if_neg h2]
          exact pu_snoc l _ u c h hc hu
    · cases h
theorem pu_dec : ∀ (f n : Nat), n < f → n < 1073741824 → Lib.parseUint10 0 (Lib.decDigits n) = .ok n
  | 0, n, h, hn => by omega
  | f + 1, n, h, hn => by
    by_cases h1 : n < 10
    · have := pu_snoc [] 0 0 (UInt8.ofNat (48 + n)) rfl (isD_chr h1) (by omega)
      rw [List.nil_append, chr_of n h1] at this
      rw [dec_lt h1, this]
      congr 1; omega
    · have := pu_snoc _ 0 _ (UInt8.ofNat (48 + n % 10)) (pu_dec f (n / 10) (by omega) (by omega)) (isD_chr (by omega)) (by omega)
      rw [chr_of _ (by omega)] at this
      rw [dec_ge h1, this]
      congr 1; omega
theorem num_dec {n : Nat} (hn : n < 1073741824) : num (Lib.decDigits n) = n := by
  have hp := pu_dec (n + 1) n (by omega) hn
  have hd := dec_dig (n := n)
  have hne := dec_ne n
  unfold num
  generalize Lib.decDigits n = l at *
  cases l with
  | nil => exact absurd rfl hne
  | cons c l =>
    have hc := hd c (List.mem_cons_self ..)
    unfold isD at hc
    simp at hc
    have : Lib.atoiAll (c :: l) = .ok (n : Int) := by
      rw [Lib.atoiAll_plain c l (by omega) (by omega)]
      unfold Lib.parseMag
      rw [if_neg (by simp), hp]
      unfold Lib.signless
      simp; omega
    rw [this]
theorem num_nil : num [] = 0 := rfl

theorem dgv_app : ∀ (l r : By) (a : Nat), (∀ c ∈ l, isD c = true) → dgv a (l ++ r) = dgv (dgv a l) r
  | [], r, a, h => rfl
  | c :: l, r, a, h => by
    rw [List.cons_append, dgv, dgv, if_pos (h c (List.mem_cons_self ..)), if_pos (h c (List.mem_cons_self ..))]
    exact dgv_app l r _ (fun x hx => h x (List.mem_cons_of_mem _ hx))
theorem dgv_dec : ∀ (f n : Nat), n < f → n < 1073741824 → dgv 0 (Lib.decDigits n) = n
  | 0, n, h, hn => by omega
  | f + 1, n, h, hn => by
    by_cases h1 : n < 10
    · rw [dec_lt h1, dgv, if_pos (isD_chr h1), dgv, chr_of n h1]; omega
    · rw [dec_ge h1, dgv_app _ _ _ dec_dig, dgv_dec f (n / 10) (by omega) (by omega), dgv, if_pos (isD_chr (by omega)), dgv, chr_of _ (by omega)]; omega
theorem dgv_stop {l r : By} {c : UInt8} {n : Nat} (hn : n < 1073741824) (hc : isD c = false) (hl : l = Lib.decDigits n) : dgv 0 (l ++ c :: r) = n := by
  subst hl
  rw [dgv_app _ _ _ dec_dig, dgv_dec (n + 1) n (by omega) hn, dgv, if_neg (by rw [hc]; simp)]
theorem dgn_app : ∀ (l r : By) (c : UInt8), (∀ x ∈ l, isD x = true) → isD c = false → dgn (l ++ c :: r) = l.length
  | [], r, c, h, hc => by rw [List.nil_append, dgn, if_neg (by rw [hc]; simp)]; rfl
  | x :: l, r, c, h, hc => by
    rw [List.cons_append, dgn, if_pos (h x (List.mem_cons_self ..)), dgn_app l r c (fun y hy => h y (List.mem_cons_of_mem _ hy)) hc]; rfl

/-- The forms of a name. -/
theorem stem_forms {n : FN} (h : stemL n ≠ []) :
    (∃ i s : Nat, i < 1073741824 ∧ 1 ≤ s ∧ s < 1073741824 ∧ n.kind = 1 ∧ n.id = i ∧ n.seg = s ∧ stemL n = 116 :: (Lib.decDigits i ++ 46 :: (Lib.decDigits s ++ tS))) ∨
    (∃ i s : Nat, i < 1073741824 ∧ 1 ≤ s ∧ s < 1073741824 ∧ n.kind = 2 ∧ n.id = i ∧ n.seg = s ∧ stemL n = 116 :: (Lib.decDigits i ++ 46 :: (Lib.decDigits s ++ tH))) ∨
    (∃ i : Nat, i < 1073741824 ∧ n.kind = 3 ∧ n.id = i ∧ n.seg = 0 ∧ stemL n = 116 :: (Lib.decDigits i ++ tM)) ∨
    (n.kind = 4 ∧ n.id = 0 ∧ n.seg = 0 ∧ stemL n = catB) := by
  unfold stemL at h ⊢
  unfold isN isS at *
  split at h
  · rename_i h1
    rw [if_pos h1]
    obtain ⟨a, b, c⟩ := h1
    simp at b c
    exact .inl ⟨n.id.toNat, n.seg.toNat, by omega, by omega, by omega, a, by omega, by omega, rfl⟩
  · rename_i h1
    rw [if_neg h1]
    split at h
    · rename_i h2
      rw [if_pos h2]
      obtain ⟨a, b, c⟩ := h2
      simp at b c
      exact .inr (.inl ⟨n.id.toNat, n.seg.toNat, by omega, by omega, by omega, a, by omega, by omega, rfl⟩)
    · rename_i h2
      rw [if_neg h2]
      split at h
      · rename_i h3
        rw [if_pos h3]
        obtain ⟨a, b, c⟩ := h3
        simp at b
        exact .inr (.inr (.inl ⟨n.id.toNat, by omega, a, by omega, c, rfl⟩))
      · rename_i h3
        rw [if_neg h3]
        split at h
        · rename_i h4
          rw [if_pos h4]
          exact .inr (.inr (.inr ⟨h4.1, h4.2.1, h4.2.2, rfl⟩))
        · exact absurd rfl h
theorem name_ne {n : FN} (h : nameL n ≠ []) : stemL n ≠ [] := by
  intro e
  unfold nameL at h
  rw [e] at h
  simp at h
/-- No stem ends in p. -/
theorem no_tmp {l : By} {c : UInt8} (hc : c ≠ 112) : Lib.hasSuffix (l ++ [c]) tmpB = false := by
  unfold Lib.hasSuffix
  cases hh : tmpB.isSuffixOf (l ++ [c]) with
  | false => rfl
  | true =>
    exfalso
    rw [List.isSuffixOf_iff_suffix] at hh
    obtain ⟨t, ht⟩ := hh
    have : (t ++ tmpB).getLast? = (l ++ [c]).getLast? := by rw [ht]
    have h2 : (t ++ tmpB).getLast? = some 112 := by
      rw [show tmpB = [46, 116, 109] ++ [112] from rfl, ← List.append_assoc, List.getLast?_append]; rfl
    rw [h2, List.getLast?_append] at this
    simp at this
    exact hc this.symm
theorem stem_last {n : FN} (h : stemL n ≠ []) : ∃ l c, stemL n = l ++ [c] ∧ c ≠ 112 := by
  rcases stem_forms h with ⟨i, s, _, _, _, _, _, _, e⟩ | ⟨i, s, _, _, _, _, _, _, e⟩ | ⟨i, _, _, _, _, e⟩ | ⟨_, _, _, e⟩
  · exact ⟨116 :: (Lib.decDigits i ++ 46 :: (Lib.decDigits s ++ [46, 115, 101])), 103, by rw [e]; simp [tS], by decide⟩
  · exact ⟨116 :: (Lib.decDigits i ++ 46 :: (Lib.decDigits s ++ [46, 104, 105, 110])), 116, by rw [e]; simp [tH], by decide⟩
  · exact ⟨116 :: (Lib.decDigits i ++ [46, 109, 97]), 110, by rw [e]; simp [tM], by decide⟩
  · exact ⟨[99, 97, 116, 97, 108, 111], 103, by rw [e]; rfl, by decide⟩
/-- What the program cuts off first. -/
theorem cut_name {n : FN} (h : stemL n ≠ []) : Lib.hasSuffix (nameL n) tmpB = n.tmp ∧ Lib.trimSuffix (nameL n) tmpB = stemL n := by
  obtain ⟨l, c, e, hc⟩ := stem_last h
  unfold nameL
  cases ht : n.tmp with
  | false =>
    rw [if_neg (by simp)]
    have := no_tmp (l := l) hc
    rw [← e] at this
    exact ⟨this, by unfold Lib.trimSuffix; rw [this]; rfl⟩
  | true =>
    rw [if_pos ⟨rfl, h⟩]
    have h2 : Lib.hasSuffix (stemL n ++ tmpB) tmpB = true := by
      unfold Lib.hasSuffix
      rw [List.isSuffixOf_iff_suffix]
      exact List.suffix_append _ _
    refine ⟨h2, ?_⟩
    unfold Lib.trimSuffix
    rw [h2]
    simp
theorem trim_t (l : By) : Lib.trimPrefix (116 :: l) [116] = l := by
  unfold Lib.trimPrefix Lib.hasPrefix
  simp [List.isPrefixOf]
theorem no46s : (∀ c ∈ ([115, 101, 103] : By), c ≠ 46) ∧ (∀ c ∈ ([104, 105, 110, 116] : By), c ≠ 46) ∧ (∀ c ∈ ([109, 97, 110] : By), c ≠ 46) := by decide
/-- What is read of a name is what was written. -/
theorem rd_name {n : FN} (h : nameL n ≠ []) : rd (nameL n) = n := by
  have hs := name_ne h
  obtain ⟨c1, c2⟩ := cut_name hs
  unfold rd
  rw [c1, c2]
  obtain ⟨k, id, seg, tmp⟩ := n
  rcases stem_forms hs with ⟨i, s, h1, h2, h3, h4, h5, h6, e⟩ | ⟨i, s, h1, h2, h3, h4, h5, h6, e⟩ | ⟨i, h1, h4, h5, h6, e⟩ | ⟨h4, h5, h6, e⟩
  · simp only at h4 h5 h6
    subst h4 h5 h6
    rw [e, if_neg (by simp [catB]), trim_t]
    show rdP tmp (parts (Lib.decDigits i ++ 46 :: (Lib.decDigits s ++ 46 :: [115, 101, 103]))) = _
    rw [parts_three (no46 dec_dig) (no46 dec_dig)]
    show (⟨1, num (Lib.decDigits i), num (Lib.decDigits s), tmp⟩ : FN) = _
    rw [num_dec h1, num_dec h3]
  · simp only at h4 h5 h6
    subst h4 h5 h6
    rw [e, if_neg (by simp [catB]), trim_t]
    show rdP tmp (parts (Lib.decDigits i ++ 46 :: (Lib.decDigits s ++ 46 :: [104, 105, 110, 116]))) = _
    rw [parts_three (no46 dec_dig) (no46 dec_dig)]
    show (⟨2, num (Lib.decDigits i), num (Lib.decDigits s), tmp⟩ : FN) = _
    rw [num_dec h1, num_dec h3]
  · simp only at h4 h5 h6
    subst h4 h5 h6
    rw [e, if_neg (by simp [catB]), trim_t]
    show rdP tmp (parts (Lib.decDigits i ++ 46 :: [109, 97, 110])) = _
    rw [parts_two (no46 dec_dig) no46s.2.2]
    show (⟨3, num (Lib.decDigits i), 0, tmp⟩ : FN) = _
    rw [num_dec h1]
  · simp only at h4 h5 h6
    subst h4 h5 h6
    rw [e, if_pos rfl]
theorem drop_dec {d r : By} {c : UInt8} : (116 :: (d ++ c :: r)).drop (1 + d.length + 1) = r := by
  rw [show 1 + d.length + 1 = (d.length + 1) + 1 by omega, List.drop_succ_cons]
  simp
theorem idL_of {i : Nat} {r : By} (h : i < 1073741824) : idL (116 :: (Lib.decDigits i ++ 46 :: r)) = i := by
  unfold idL
  rw [if_pos (show (116 :: (Lib.decDigits i ++ 46 :: r)).head? = some 116 from rfl), List.drop_succ_cons, List.drop_zero, dgv_stop h isD_46 rfl]
theorem segL_of {i s : Nat} {r : By} (h : s < 1073741824) : segL (116 :: (Lib.decDigits i ++ 46 :: (Lib.decDigits s ++ 46 :: r))) = s := by
  have a1 : dgn (Lib.decDigits i ++ 46 :: (Lib.decDigits s ++ 46 :: r)) = (Lib.decDigits i).length := dgn_app _ _ _ dec_dig isD_46
  unfold segL
  rw [List.drop_succ_cons, List.drop_zero, a1, if_pos ⟨rfl, by simp; omega⟩, drop_dec, dgv_stop h isD_46 rfl]
/-- The document's way finds it too. -/
theorem cand_name {n : FN} (h : nameL n ≠ []) : (n.kind = 1 ∨ n.kind = 2 ∨ n.kind = 3 ∨ n.kind = 4) ∧ cand (nameL n) n.kind n.tmp = n := by
  have hs := name_ne h
  have hnm : ∃ t, nameL n = stemL n ++ t := by
    unfold nameL
    split
    · exact ⟨_, rfl⟩
    · exact ⟨[], by simp⟩
  obtain ⟨t, ht⟩ := hnm
  rw [ht]
  obtain ⟨k, id, seg, tmp⟩ := n
  rcases stem_forms hs with ⟨i, s, h1, h2, h3, h4, h5, h6, e⟩ | ⟨i, s, h1, h2, h3, h4, h5, h6, e⟩ | ⟨i, h1, h4, h5, h6, e⟩ | ⟨h4, h5, h6, e⟩
  · simp only at h4 h5 h6
    subst h4 h5 h6
    refine ⟨.inl rfl, ?_⟩
    have e2 : stemL ⟨1, i, s, tmp⟩ ++ t = 116 :: (Lib.decDigits i ++ 46 :: (Lib.decDigits s ++ 46 :: ([115, 101, 103] ++ t))) := by rw [e]; simp [tS]
    rw [e2]
    show (⟨1, ((idL _ : Nat) : Int), ((segL _ : Nat) : Int), tmp⟩ : FN) = _
    rw [idL_of h1, segL_of h3]
  · simp only at h4 h5 h6
    subst h4 h5 h6
    refine ⟨.inr (.inl rfl), ?_⟩
    have e2 : stemL ⟨2, i, s, tmp⟩ ++ t = 116 :: (Lib.decDigits i ++ 46 :: (Lib.decDigits s ++ 46 :: ([104, 105, 110, 116] ++ t))) := by rw [e]; simp [tH]
    rw [e2]
    show (⟨2, ((idL _ : Nat) : Int), ((segL _ : Nat) : Int), tmp⟩ : FN) = _
    rw [idL_of h1, segL_of h3]
  · simp only at h4 h5 h6
    subst h4 h5 h6
    refine ⟨.inr (.inr (.inl rfl)), ?_⟩
    have e2 : stemL ⟨3, i, 0, tmp⟩ ++ t = 116 :: (Lib.decDigits i ++ 46 :: ([109, 97, 110] ++ t)) := by rw [e]; simp [tM]
    rw [e2]
    show (⟨3, ((idL _ : Nat) : Int), 0, tmp⟩ : FN) = _
    rw [idL_of h1]
  · simp only at h4 h5 h6
    subst h4 h5 h6
    exact ⟨.inr (.inr (.inr rfl)), rfl⟩
theorem hit_parse {l : By} {n : FN} (h : hit l n) : parseL l = n := by
  obtain ⟨h1, rfl⟩ := h
  unfold parseL
  rw [rd_name h1, if_pos rfl]
theorem rd_nil : rd [] = FN.zero := by rfl
theorem miss_parse {l : By} (h : ∀ (k : Int) (t : Bool), (k = 1 ∨ k = 2 ∨ k = 3 ∨ k = 4) → ¬ hit l (cand l k t)) : parseL l = FN.zero := by
  unfold parseL
  split
  · rename_i h1
    by_cases hl : l = []
    · rw [hl, rd_nil]
    · have hn : nameL (rd l) ≠ [] := by rw [h1]; exact hl
      obtain ⟨hk, hc⟩ := cand_name hn
      rw [h1] at hc
      exact absurd ⟨by rw [hc]; exact hn, by rw [hc]; exact h1⟩ (h (rd l).kind (rd l).tmp hk)
  · rfl
theorem num_bounds (l : By) : -9223372036854775808 ≤ num l ∧ num l ≤ 9223372036854775807 := by
  unfold num
  split
  · rename_i v h
    exact Lib.atoiAll_bounds h
  · exact Lib.atoiSat_bounds l
  · omega
theorem dgv_le : ∀ (l : By) (a : Nat), a ≤ 1073741824 → dgv a l ≤ 1073741824
  | [], a, h => h
  | c :: l, a, h => by
    rw [dgv]
    split
    · exact dgv_le l _ (by omega)
    · exact h
theorem dgn_le : ∀ (l : By), dgn l ≤ l.length
  | [] => Nat.le_refl _
  | c :: l => by
    rw [dgn]
    split
    · have := dgn_le l
      simp; omega
    · simp
end Go.Proofs.YteekmmgopnnioaaDoor.Mn
