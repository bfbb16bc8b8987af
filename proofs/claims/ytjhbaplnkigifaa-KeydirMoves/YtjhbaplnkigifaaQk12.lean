import Derived.Test.YtjhbaplnkigifaaQk11
/-! keydir: below, After. -/
namespace Go.Proofs.Ytjhbaplnkigifaa
open Go.RowKit Go.Lib Plain
set_option linter.unusedVariables false
set_option linter.unusedSimpArgs false

theorem ret_b {a b : Bool} (h : a = b) : Ending.returned (.bool a) = .returned (.bool b) := by rw [h]
theorem u8_ne {x y : UInt8} (h : ¬ x.toNat = y.toNat) : ((x.toNat : Int) == (y.toNat : Int)) = false := by simpa using fun h' => h (by omega)
/-- A string as a new row of bytes: its cells, and what lies behind them. -/
theorem conv_new (s : ByteArray) (w : World) : ∃ (cap : Nat) (C : Array Value), (convert 9 93 (.string s)).run Try.prog w = .ok (.slice (some ⟨w.heap.size, 0, none⟩) s.size cap) (w.drew.alloc (.cells C 5 (C.size, C.size + 1))) ∧ s.size ≤ C.size ∧ ∀ j (h : j < s.size), C[j]? = some (.int .u8 (s[j].toNat : Int)) := by
  refine ⟨_, _, run_bytes_of_string w 9 93 5 s Try.underlying9 Try.underlying93 Try.underlying5, ?_, ?_⟩
  · simp [bytesRow]
  · intro j h
    exact bytesRow_at s _ j h

theorem conv_back (l : List UInt8) (b n cap : Nat) (hl : l.length = n) (w : World) (hc : ∀ j (hj : j < l.length), w.cell? ⟨b, j, none⟩ = some (.int .u8 (l[j].toNat : Int))) :
    (convert 93 9 (.slice (some ⟨b, 0, none⟩) n cap)).run Try.prog w = .ok (.string ⟨l.toArray⟩) w := by
  subst hl
  exact run_convert_bytes_back (P := Try.prog) w 93 9 5 ⟨b, 0, none⟩ cap l Try.underlying93 Try.underlying5 Try.underlying9 (fun j hj => by rw [WideShapes.add_plain, Nat.zero_add]; exact hc j hj)

theorem after_row (p : ByteArray) (m : Nat) (hm : m < p.size) (hb : ¬ p[m].toNat = 255) (w : World) (C : Array Value) (cap : Nat) (hC : m + 1 ≤ C.size)
    (hcell : ∀ j (h : j < (p.extract 0 (m + 1)).size), C[j]? = some (.int .u8 ((p.extract 0 (m + 1))[j].toNat : Int)))
    (hc0 : (w.alloc (.cells C 5 (C.size, C.size + 1))).cell? ⟨w.heap.size, m, none⟩ = some (.int .u8 (p[m].toNat : Int))) :
    (convert 93 9 (.slice (some ⟨w.heap.size, 0, none⟩) (m + 1) cap)).run Try.prog ((w.alloc (.cells C 5 (C.size, C.size + 1))).setCell ⟨w.heap.size, m, none⟩ (.int .u8 ((p[m].toNat : Int) + 1))).drew
      = .ok (.string ⟨(p.data.toList.take m ++ [p[m] + 1]).toArray⟩) ((w.alloc (.cells C 5 (C.size, C.size + 1))).setCell ⟨w.heap.size, m, none⟩ (.int .u8 ((p[m].toNat : Int) + 1))).drew := by
  have hlt := p[m].toNat_lt
  have hsz : (p.extract 0 (m + 1)).size = m + 1 := by simp; omega
  have hl : (p.data.toList.take m ++ [p[m] + 1]).length = m + 1 := by simp; omega
  have hn1 : ((p[m] + 1 : UInt8).toNat : Int) = (p[m].toNat : Int) + 1 := by
    rw [UInt8.toNat_add]; simp; omega
  refine conv_back (p.data.toList.take m ++ [p[m] + 1]) w.heap.size (m + 1) cap hl _ (fun j hj => ?_)
  show ((w.alloc (.cells C 5 (C.size, C.size + 1))).setCell ⟨w.heap.size, m, none⟩ (.int .u8 ((p[m].toNat : Int) + 1))).cell? ⟨w.heap.size, j, none⟩ = _
  by_cases hjm : j = m
  · subst hjm
    rw [World.cell?_setCell_same _ _ _ hc0]
    rw [List.getElem_append_right (by rw [List.length_take]; exact Nat.min_le_left _ _)]
    simp only [List.getElem_singleton, hn1]
  · have hj' : j < m := by rw [hl] at hj; omega
    rw [World.cell?_setCell_other _ _ _ _ (by simp), World.cell?_alloc_mark, hcell j (by omega)]
    rw [List.getElem_append_left (by simp; omega)]
    rw [List.getElem_take, ByteArray.getElem_extract]
    simp only [Nat.zero_add]
    rfl

theorem ret_sb {s t : ByteArray} {b c : Bool} (h : s = t) (h' : b = c) : Ending.returned (.tuple #[.string s, .bool b]) = .returned (.tuple #[.string t, .bool c]) := by rw [h, h']

def aftS (p : ByteArray) : ByteArray := ⟨((aft p.data.toList).getD []).toArray⟩
def aftB (p : ByteArray) : Bool := (aft p.data.toList).isSome

theorem take_at (s : ByteArray) (k : Nat) (h : k < s.size) : s.data.toList.take (k + 1) = s.data.toList.take k ++ [s[k]] := by
  rw [List.take_succ_eq_append_getElem (by simpa using h)]; rfl

set_option maxRecDepth 100000 in
set_option maxHeartbeats 2000000 in
theorem afterOf (p : ByteArray) (w : World) (hp : p.size ≤ maxLen) :
    Calls Try.prog 59 #[.string p] w fun e w' => e = .returned (.tuple #[.string (aftS p), .bool (aftB p)]) ∧ Below w.heap.size w w' := by
  unfold maxLen at hp
  go_enter Try.func59, Try.ntmps59
  go_wp2
  go_loop [4] (fun i => ∃ k : Nat, k ≤ p.size ∧ i = .int .i64 k ∧ aft p.data.toList = aft (p.data.toList.take k)) (fun i => (RowKit.intOf i).toNat)
  case atStart => exact ⟨p.size, Nat.le_refl _, rfl, by rw [List.take_of_length_le (show p.data.toList.length ≤ p.size from Nat.le_refl _)]⟩
  case round =>
    obtain ⟨k, hk, rfl, hr⟩ := hrel
    have HR : Hid (aft p.data.toList = aft (p.data.toList.take k)) := hr
    clear hr
    by_cases h0 : k = 0
    · subst h0
      have HS : Hid (aft p.data.toList = none) := HR.out
      clear HR
      go_wp2
      go_ret2
      exact ⟨ret_sb (by unfold aftS; rw [HS.out]; rfl) (by unfold aftB; rw [HS.out]; rfl), Below.refl _ _⟩
    · obtain ⟨m, rfl⟩ : ∃ m, k = m + 1 := ⟨k - 1, by omega⟩
      have hm : m < p.size := by omega
      have HS : Hid (aft p.data.toList = if p[m].toNat = 255 then aft (p.data.toList.take m) else some (p.data.toList.take m ++ [p[m] + 1])) := by
        unfold Hid; rw [HR.out, take_at p m hm, aft_snoc]
      clear HR h0
      by_cases hb : p[m].toNat = 255
      · have HT : Hid (aft p.data.toList = aft (p.data.toList.take m)) := by unfold Hid; rw [HS.out, if_pos hb]
        have hb' : ((p[m].toNat : Int) == 255) = true := by rw [hb]; rfl
        clear HS hb
        go_wp2
        go_round
        case rel => exact ⟨m, by omega, rfl, HT.out⟩
        case measure => simp [RowKit.intOf]
      · have HT : Hid (aft p.data.toList = some (p.data.toList.take m ++ [p[m] + 1])) := by unfold Hid; rw [HS.out, if_neg hb]
        have hb' : ((p[m].toNat : Int) == 255) = false := by simpa using fun h => hb (by omega)
        have hlt := p[m].toNat_lt
        clear HS
        have hsz : (p.extract 0 (m + 1)).size = m + 1 := by simp; omega
        obtain ⟨cap, C, hconv, hC, hcell⟩ := conv_new (p.extract 0 (m + 1)) w
        rw [hsz] at hconv hC
        have hcm := hcell m (by omega)
        have hem : (p.extract 0 (m + 1))[m]'(by omega) = p[m] := by rw [ByteArray.getElem_extract]; simp only [Nat.zero_add]
        rw [hem] at hcm
        have hc0 : (w.alloc (.cells C 5 (C.size, C.size + 1))).cell? ⟨w.heap.size, m, none⟩ = some (.int .u8 (p[m].toNat : Int)) := by rw [World.cell?_alloc_mark, hcm]
        have hz0 : (w.alloc (.cells C 5 (C.size, C.size + 1))).frozen? ⟨w.heap.size, m, none⟩ = false := by
          rw [World.frozen?_alloc_mark]; simp; omega
        have hback := after_row p m hm hb w C cap hC hcell hc0
        clear hcell hcm hem hsz hC
        have HTL : Hid (aftS p = ⟨(p.data.toList.take m ++ [p[m] + 1]).toArray⟩) := by unfold Hid aftS; rw [HT.out]; rfl
        have HTB : Hid (aftB p = true) := by unfold Hid aftB; rw [HT.out]; rfl
        clear HT
        go_wp2
        go_ret2
        exact ⟨ret_sb HTL.out.symm HTB.out.symm, (((Below.refl _ _).alloc (Nat.le_refl _) _).setCell (Nat.le_refl _) _).drew⟩


/-- What All gives from p on and below what is after p: all that begins with p. -/
def begB (p : ByteArray) (x : Ke) : Bool := decide (p.data.toList <+: x.key.data.toList)
theorem aftS_len (p : ByteArray) : (aftS p).size ≤ p.size := by
  unfold aftS
  cases h : aft p.data.toList with
  | none => exact Nat.zero_le _
  | some q =>
    have h1 := aft_len _ _ h
    have h2 : p.data.toList.length = p.size := rfl
    show q.toArray.size ≤ _
    rw [List.size_toArray]
    omega
theorem aft_ne (p q : List UInt8) (h : aft p = some q) : q ≠ [] := by
  intro e
  subst e
  have h1 := pre_some p p [] h
  have h2 : ¬ cmpL p [] < 0 := by cases p <;> simp [cmpL]
  exact h2 (h1.2 (List.prefix_refl p)).2
theorem rng_after (p : ByteArray) (x : Ke) : rngB p (aftS p) x = begB p x := by
  have hr := kc_range x.key p
  unfold rngB begB
  cases h : aft p.data.toList with
  | none =>
    have hS : (aftS p).size = 0 := by unfold aftS; rw [h]; rfl
    rw [hS]
    have h1 := pre_none p.data.toList x.key.data.toList (aft_none _ h)
    simp only [decide_true, Bool.true_or, Bool.and_true]
    refine decide_eq_decide.mpr (Iff.trans ?_ h1)
    show kc x.key p ≠ -1 ↔ 0 ≤ kc x.key p
    omega
  | some q =>
    have hS : ¬ (aftS p).size = 0 := by
      have hne := aft_ne _ _ h
      unfold aftS
      rw [h]
      show ¬ q.toArray.size = 0
      rw [List.size_toArray]
      exact fun e => hne (List.length_eq_zero_iff.mp e)
    have h1 := pre_some p.data.toList x.key.data.toList q h
    have hq : kc x.key (aftS p) = cmpL x.key.data.toList q := by simp [kc, aftS, h]
    have hr2 := cmpL_range x.key.data.toList q
    rw [hq]
    simp only [decide_eq_false hS, Bool.false_or, ← Bool.decide_and]
    refine decide_eq_decide.mpr (Iff.trans ?_ h1)
    show kc x.key p ≠ -1 ∧ _ ↔ 0 ≤ kc x.key p ∧ _
    omega
theorem rngL_after (p : ByteArray) (l : List Ke) : rngL p (aftS p) l = l.filter (begB p) := by
  unfold rngL
  congr 1
  funext x
  exact rng_after p x
end Go.Proofs.Ytjhbaplnkigifaa

/-! keydir: the document's at, Len, Get, Nth. -/
namespace Go.Proofs.Ytjhbaplnkigifaa
open Go.RowKit Plain
set_option linter.unusedVariables false
set_option linter.unusedSimpArgs false

/-- The key's place; -1: it is not there. -/
def atL (key : ByteArray) (l : List Ke) : Int := if (findL key l).isSome then (rankL key l : Int) else -1
theorem rank_key {l : List Ke} {key : ByteArray} (hs : Srt l) (h : rankL key l < l.length) : ((l.getD (rankL key l) Ke.zero).key = key ↔ (findL key l).isSome = true) := by
  constructor
  · intro e
    cases hf : findL key l with
    | some x => rfl
    | none =>
      have hm : l.getD (rankL key l) Ke.zero ∈ l := by rw [List.getD_eq_getElem?_getD, List.getElem?_eq_getElem h]; exact List.getElem_mem _
      unfold findL at hf
      rw [List.find?_eq_none] at hf
      have := hf _ hm
      rw [e] at this
      simp [kc_self] at this
  · intro hf
    exact (rank_found hs hf).2
set_option maxHeartbeats 2000000 in
theorem xatOf (gx : Nat) (v : Value) (l : List Ke) (r : Option Nat) (key : ByteArray) (w : World) (h : XDirAt w gx v l r) (hk : key.size ≤ maxLen) :
    Calls Try.prog 42 #[.pointer (some ⟨gx, 0, none⟩), .string key] w fun e w' => e = .returned (.int .i64 (atL key l)) ∧ ∃ n, w' = w.drewN n := by
  obtain ⟨a, cap, rfl, hc1, hc2⟩ := h.shape
  have HX : Hid (XDirAt w gx (.slice a l.length cap) l r) := h
  have HRK : Hid (Calls Try.prog 22 #[.pointer (some ⟨gx, 0, none⟩), .string key] w fun e w' => e = .returned (.int .i64 (rankL key l : Nat)) ∧ ∃ n, w' = w.drewN n) := xrankOf gx _ l r key w h hk
  have c0 := h.cell
  have hll := h.len
  have HS : Hid (Srt l) := h.srt
  have HF : Hid (¬ rankL key l < l.length → atL key l = -1) := fun hh => by
    unfold atL
    rw [if_neg (fun hf => hh (rank_found HS.out hf).1)]
  have HY : Hid (rankL key l < l.length → (l.getD (rankL key l) Ke.zero).key = key → atL key l = (rankL key l : Nat)) := fun h1 h2 => by
    unfold atL
    rw [if_pos ((rank_key HS.out h1).1 h2)]
  have HZ : Hid (rankL key l < l.length → ¬ (l.getD (rankL key l) Ke.zero).key = key → atL key l = -1) := fun h1 h2 => by
    unfold atL
    rw [if_neg (fun hf => h2 ((rank_key HS.out h1).2 hf))]
  have HC : Hid (rankL key l < l.length → ∃ g, a = some ⟨g, 0, none⟩ ∧ w.cell? ⟨g, rankL key l * 7, none⟩ = some (.string (l.getD (rankL key l) Ke.zero).key)) := fun h1 => by
    obtain ⟨g, _, e, hc⟩ := HX.out.at h1
    exact ⟨g, e, hc.c0⟩
  clear h hk HX HS
  generalize (l.getD (rankL key l) Ke.zero).key = yk at *
  generalize rankL key l = k at *
  generalize atL key l = A at *
  by_cases hlt : k < l.length
  · obtain ⟨g, rfl, d0⟩ := HC.out hlt
    have hki : (k : Int) < (l.length : Int) := by omega
    by_cases he : yk = key
    · have HA : Hid (A = (k : Nat)) := HY.out hlt he
      subst he
      go_enter Try.func42, Try.ntmps42
      go_wp2_with fail
      refine HRK.out.mono ?_
      rintro e w' ⟨rfl, nq, rfl⟩
      go_wp2
      go_ret
      exact ⟨by simp [HA.out], _, rfl⟩
    · have HA : Hid (A = -1) := HZ.out hlt he
      have hB : (yk.toList == key.toList) = false := by
        rw [beq_eq_false_iff_ne, ByteArray.toList_eq, ByteArray.toList_eq]
        exact fun e => he (WideShapes.bytes_inj e)
      go_enter Try.func42, Try.ntmps42
      go_wp2_with fail
      refine HRK.out.mono ?_
      rintro e w' ⟨rfl, nq, rfl⟩
      go_wp2
      go_ret
      exact ⟨by simp [HA.out], _, rfl⟩
  · have HA : Hid (A = -1) := HF.out hlt
    have hki : ¬ (k : Int) < (l.length : Int) := by omega
    go_enter Try.func42, Try.ntmps42
    go_wp2_with fail
    refine HRK.out.mono ?_
    rintro e w' ⟨rfl, nq, rfl⟩
    go_wp2
    go_ret
    exact ⟨by simp [HA.out], _, rfl⟩
theorem xlenOf (gx : Nat) (v : Value) (l : List Ke) (r : Option Nat) (w : World) (h : XDirAt w gx v l r) :
    Calls Try.prog 24 #[.pointer (some ⟨gx, 0, none⟩)] w fun e w' => e = .returned (.int .i64 l.length) ∧ w' = w := by
  obtain ⟨a, cap, rfl, hc1, hc2⟩ := h.shape
  have c0 := h.cell
  clear h
  go_enter Try.func24, Try.ntmps24
  go_wp2
  go_ret
  exact ⟨rfl, rfl⟩
end Go.Proofs.Ytjhbaplnkigifaa

/-! keydir: the document's Get, Nth. -/
namespace Go.Proofs.Ytjhbaplnkigifaa
open Go.RowKit Plain
set_option linter.unusedVariables false
set_option linter.unusedSimpArgs false

theorem at_found {l : List Ke} {key : ByteArray} {x : Ke} (hs : Srt l) (hf : findL key l = some x) : atL key l = (rankL key l : Nat) ∧ rankL key l < l.length ∧ l.getD (rankL key l) Ke.zero = x := by
  have h1 : (findL key l).isSome = true := by rw [hf]; rfl
  obtain ⟨h2, h3⟩ := rank_found hs h1
  refine ⟨by unfold atL; rw [if_pos h1], h2, ?_⟩
  obtain ⟨hm, hk⟩ := findL_is hf
  obtain ⟨j, hj, e⟩ := List.getElem_of_mem hm
  have h4 : rankL key l = j := by
    have := rank_at hs hj
    rw [List.getD_eq_getElem?_getD, List.getElem?_eq_getElem hj] at this
    rw [show (some l[j]).getD Ke.zero = l[j] from rfl, e, hk] at this
    exact this
  rw [h4, List.getD_eq_getElem?_getD, List.getElem?_eq_getElem hj]
  exact e
theorem at_none {l : List Ke} {key : ByteArray} (hf : findL key l = none) : atL key l = -1 := by
  unfold atL
  rw [hf]; rfl
theorem hresXget : Try.f18.results = #[.cell 4 38, .tmp 5] := by kernel_rfl
set_option maxHeartbeats 4000000 in
theorem xgetOf (gx : Nat) (v : Value) (l : List Ke) (r : Option Nat) (key : ByteArray) (w : World) (h : XDirAt w gx v l r) (hk : key.size ≤ maxLen) :
    Calls Try.prog 18 #[.pointer (some ⟨gx, 0, none⟩), .string key] w fun e w' => e = .returned (.tuple #[(gotE (findL key l)).v, .bool (findL key l).isSome]) ∧ Below w.heap.size w w' := by
  obtain ⟨a, cap, rfl, hc1, hc2⟩ := h.shape
  obtain ⟨w0, hw0⟩ : ∃ w0, w.alloc (.cells #[.int .i64 0, .int .i64 0, .int .i64 0, .int .i64 0, .int .i64 0, .bool false] 38) = w0 := ⟨_, rfl⟩
  have hb0 : Below w.heap.size w w0 := by rw [← hw0]; exact (Below.refl _ _).alloc (Nat.le_refl _) _
  have HRS : Hid (∀ u, Below w0.heap.size w0 u → EnAt u w.heap.size En.zero ∧ ∀ j, u.frozen? ⟨w.heap.size, j, none⟩ = false) := fun u hu => by
    have h : EnAt w0 w.heap.size En.zero := by rw [← hw0]; exact EnAt.new w En.zero
    refine ⟨h.block (hu.block _ h.lt), fun j => ?_⟩
    rw [hu.frozen (p := ⟨w.heap.size, j, none⟩) h.lt, ← hw0]
    exact World.frozen?_alloc_at _ _ _ _ rfl
  have HX := h.later hb0
  have HAT : Hid (Calls Try.prog 42 #[.pointer (some ⟨gx, 0, none⟩), .string key] w0 fun e w' => e = .returned (.int .i64 (atL key l)) ∧ ∃ n, w' = w0.drewN n) := xatOf gx _ l r key w0 HX hk
  have HB0 : Hid (Below w.heap.size w w0) := hb0
  obtain ⟨r0, r1, r2, r3, r4, r5⟩ := (HRS.out w0 (Below.refl _ _)).1
  simp only [En.zero] at r0 r1 r2 r3 r4 r5
  have f0 := (HRS.out w0 (Below.refl _ _)).2 0
  have f1 := (HRS.out w0 (Below.refl _ _)).2 1
  have f2 := (HRS.out w0 (Below.refl _ _)).2 2
  have f3 := (HRS.out w0 (Below.refl _ _)).2 3
  have f4 := (HRS.out w0 (Below.refl _ _)).2 4
  have f5 := (HRS.out w0 (Below.refl _ _)).2 5
  have c0 := HX.cell
  have hll := HX.len
  cases hf : findL key l with
  | none =>
    rw [at_none hf] at HAT
    clear h hk hf HX HRS
    go_enter Try.func18, Try.ntmps18
    go_wp2_with fail
    refine HAT.out.mono ?_
    rintro e w' ⟨rfl, nq, rfl⟩
    go_wp2
    refine bodyPost_ret (v := .tuple #[En.zero.v, .bool false]) ?_ rfl ⟨rfl, putEn_below En.zero (below_drewN HB0.out nq) (Nat.le_refl _)⟩
    simp only [results, hresXget, En.zero]
    go_simp
  | some x =>
    obtain ⟨e1, h1, h2⟩ := at_found HX.srt hf
    obtain ⟨g, rfl, rfl, hc⟩ := HX.at h1
    rw [h2] at hc
    rw [e1] at HAT
    obtain ⟨xkey, xe⟩ := x
    obtain ⟨x1, x2, x3, x4, x5, x6⟩ := xe
    obtain ⟨d0, d1, d2, d3, d4, d5, d6⟩ := hc
    simp only [Ke.r] at d0 d1 d2 d3 d4 d5 d6
    have hki : (rankL key l : Int) < (l.length : Int) := by omega
    clear h hk h2 hf e1 HX HRS
    generalize rankL key l = k at *
    go_enter Try.func18, Try.ntmps18
    go_wp2_with fail
    refine HAT.out.mono ?_
    rintro e w' ⟨rfl, nq, rfl⟩
    go_wp2
    refine bodyPost_ret (v := .tuple #[En.v ⟨x1, x2, x3, x4, x5, x6⟩, .bool true]) ?_ rfl ⟨rfl, putEn_below ⟨x1, x2, x3, x4, x5, x6⟩ (below_drewN HB0.out nq) (Nat.le_refl _)⟩
    simp only [results, hresXget]
    go_simp
end Go.Proofs.Ytjhbaplnkigifaa

/-! keydir: rows of the document's dir: pieces, places written in place; where a key stands. -/
namespace Go.Proofs.Ytjhbaplnkigifaa
open Go.RowKit Plain
set_option linter.unusedVariables false
set_option linter.unusedSimpArgs false

/-- Of the blocks that were there only those of S have turned. -/
structure Chg (S : Nat → Prop) (w w' : World) : Prop where
  os : w'.os = w.os
  tape : w'.tape = w.tape
  output : w'.output = w.output
  size : w.heap.size ≤ w'.heap.size
  block : ∀ k, k < w.heap.size → ¬ S k → w'.heap[k]? = w.heap[k]?
theorem Chg.refl (S : Nat → Prop) (w : World) : Chg S w w := ⟨rfl, rfl, rfl, Nat.le_refl _, fun _ _ _ => rfl⟩
theorem Chg.grown {S : Nat → Prop} {a b c : World} {r : Option Nat} (h : Chg S a b) (k : b.grownBy c r) (hr : ∀ g, r = some g → S g ∨ a.heap.size ≤ g) : Chg S a c :=
  ⟨k.os.trans h.os, k.tape.trans h.tape, k.output.trans h.output, Nat.le_trans h.size k.size, fun i hi hs => by
    rw [k.block i (Nat.lt_of_lt_of_le hi h.size) (fun e => by
      rcases hr i e.symm with h1 | h1
      · exact hs h1
      · omega)]
    exact h.block i hi hs⟩
theorem Chg.more {S : Nat → Prop} {a b c : World} (h : Chg S a b) (k : Below b.heap.size b c) : Chg S a c := h.grown (below_grow k none) (by simp)
theorem Chg.ofBelow {S : Nat → Prop} {a b : World} (k : Below a.heap.size a b) : Chg S a b := (Chg.refl S a).more k
theorem Chg.trans {S : Nat → Prop} {a b c : World} (h : Chg S a b) (k : Chg S b c) : Chg S a c :=
  ⟨k.os.trans h.os, k.tape.trans h.tape, k.output.trans h.output, Nat.le_trans h.size k.size, fun i hi hs => (k.block i (Nat.lt_of_lt_of_le hi h.size) hs).trans (h.block i hi hs)⟩
theorem Chg.trans' {S T : Nat → Prop} {a b c : World} (h : Chg S a b) (k : Chg T b c) (hs : ∀ x, T x → S x ∨ a.heap.size ≤ x) : Chg S a c :=
  ⟨k.os.trans h.os, k.tape.trans h.tape, k.output.trans h.output, Nat.le_trans h.size k.size, fun i hi hn => (k.block i (Nat.lt_of_lt_of_le hi h.size) (fun e => by
    rcases hs i e with h1 | h1
    · exact hn h1
    · omega)).trans (h.block i hi hn)⟩
theorem Chg.mono {S T : Nat → Prop} {a b : World} (h : Chg S a b) (hs : ∀ k, S k → T k) : Chg T a b := ⟨h.os, h.tape, h.output, h.size, fun k hk hn => h.block k hk (fun e => hn (hs k e))⟩

theorem kcells_one (ks : List Kr) : ∀ u ∈ kcells ks, u.oneCell' = true := by
  intro u hu
  simp only [kcells, List.mem_flatMap] at hu
  obtain ⟨x, _, hx⟩ := hu
  simp [Kr.cells] at hx
  rcases hx with rfl | rfl | rfl | rfl | rfl | rfl | rfl <;> rfl
theorem run_append_nilk (w : World) (ty : TypeId) (x : Value) (hs : Src Try.prog 7 43 x 0 [] w) : (Builtin.append_ #[43, 43] ty #[.slice none 0 0, x]).run Try.prog w = .ok (.slice none 0 0) w := by
  obtain ⟨i, hi, hz0, hz1, hz2⟩ := info_parts Try.info58
  have hs' : Src Try.prog i.size 43 x 0 [] w := by rw [hz1]; exact hs
  exact run_append_nothing w 43 43 ty 58 i Try.underlying43 hi none 0 0 (Nat.le_refl _) x hs'
theorem wpList_append_ka {ops : Array Oper} {rest : List Oper} {o : Oper} {a : Act} {Q : Exit → Act → World → Prop} (w : World) (hgd : o.guard = none) (s x : Operand)
    (ho : o.op = .call { callee := .builtin .append, args := #[s, x], argTypes := #[43, 43] }) (v xv : Value) (ts : List Kr) (ks : List Kr) (r : Option Nat)
    (hs : a.eval s = v) (hx : a.eval x = xv) (hown : OwnKr w v ts r) (hsrc : Src Try.prog 7 43 xv ks.length (kcells ks) w) (hlen : ts.length + ks.length ≤ 2199023255552)
    (h : ∀ v' w' r', OwnKr w' v' (ts ++ ks) r' → w.grownBy w' r → (r' = r ∨ r' = some w.heap.size) → wpList Try.prog ops Q rest (a.put o.dst v') w') : wpList Try.prog ops Q (o :: rest) a w := by
  by_cases hr0 : r ≠ none ∨ 0 < ks.length
  · exact wpList_append_k w hgd s x ho v xv ts ks r hs hx hown hsrc hlen hr0 fun v' w' g h1 h2 h3 => h v' w' (some g) h1 h2 (h3.imp id fun e => by rw [e])
  · have hr : r = none := by
      rcases Classical.em (r = none) with h | h
      · exact h
      · exact absurd (.inl h) hr0
    have hk : ks = [] := by
      rcases ks with _ | ⟨y, ys⟩
      · rfl
      · exact absurd (.inr (by simp)) hr0
    subst hk
    rcases hown with ⟨rfl, rfl, -⟩ | ⟨g, _, e, _⟩
    · refine wpList_plain hgd fun _ hK => ?_
      have hrun := run_append_nilk w o.type xv hsrc
      unfold Oper.wp execOp
      simp only [ho, resolve, invoke, builtin, Sem.run_bind, Sem.run_pure, Result.andThen_ok, List.map_toArray, List.map_cons, List.map_nil, hs, hx, hrun]
      exact hK _ _ (h _ _ none (OwnKr.nil w) (below_grow (Below.refl _ _) _) (.inl hr.symm))
    · rw [hr] at e; cases e
theorem cells_nth {w : World} {b o i : Nat} {x : Kr} (h : Kr.CellsAt w b o x) (hi : i < 7) : w.cell? ⟨b, o + i, none⟩ = x.cells[i]? := by
  obtain ⟨c0, c1, c2, c3, c4, c5, c6⟩ := h
  match i, hi with
  | 0, _ => exact c0
  | 1, _ => exact c1
  | 2, _ => exact c2
  | 3, _ => exact c3
  | 4, _ => exact c4
  | 5, _ => exact c5
  | 6, _ => exact c6
/-- The first of a row. -/
theorem CellsAt.srcTake {w : World} {b off k c : Nat} {rs : List Kr} (h : ∀ j, j < rs.length → Kr.CellsAt w b (off + j * 7) (rs.getD j Kr.zero)) (hk : k ≤ rs.length) : Src Try.prog 7 43 (.slice (some ⟨b, off, none⟩) k c) (rs.take k).length (kcells (rs.take k)) w := by
  have hl : (rs.take k).length = k := by simp; omega
  rw [hl]
  refine Src.ofSlice _ Try.underlying43 _ k c _ (by rw [kcells_len, hl]; omega) (fun j u hj => ?_) (kcells_one _)
  have hjl : j < 7 * k := by
    have := (List.getElem?_eq_some_iff.mp hj).1
    rw [kcells_len, hl] at this; omega
  have hc := h (j / 7) (by omega)
  have hm : j % 7 < 7 := Nat.mod_lt _ (by omega)
  have hg := kcells_get (rs.take k) (j / 7) (j % 7) (by rw [hl]; omega) hm
  rw [show j / 7 * 7 + j % 7 = j by omega, hj] at hg
  have hgd : (rs.take k).getD (j / 7) Kr.zero = rs.getD (j / 7) Kr.zero := by
    rw [List.getD_eq_getElem?_getD, List.getD_eq_getElem?_getD, List.getElem?_take_of_lt (by omega)]
  rw [hgd] at hg
  rw [WideShapes.add_plain]
  have hn := cells_nth hc hm
  rw [show off + j / 7 * 7 + j % 7 = off + j by omega] at hn
  exact hn.trans hg.symm
/-- .. and what is behind it. -/
theorem CellsAt.srcDrop {w : World} {b off k m c : Nat} {rs : List Kr} (h : ∀ j, j < rs.length → Kr.CellsAt w b (off + j * 7) (rs.getD j Kr.zero)) (hk : k ≤ rs.length) (hm : m = rs.length - k) : Src Try.prog 7 43 (.slice (some ⟨b, off + k * 7, none⟩) m c) (rs.drop k).length (kcells (rs.drop k)) w := by
  have h2 : ∀ j, j < (rs.drop k).length → Kr.CellsAt w b (off + k * 7 + j * 7) ((rs.drop k).getD j Kr.zero) := fun j hj => by
    have hj' : k + j < rs.length := by simp at hj; omega
    have h3 := h (k + j) hj'
    rw [show off + (k + j) * 7 = off + k * 7 + j * 7 by omega] at h3
    have e : (rs.drop k).getD j Kr.zero = rs.getD (k + j) Kr.zero := by
      rw [List.getD_eq_getElem?_getD, List.getD_eq_getElem?_getD, List.getElem?_drop]
    rw [e]
    exact h3
  have h4 := CellsAt.srcTake (k := m) (c := c) h2 (by simp; omega)
  have e : (rs.drop k).take m = rs.drop k := List.take_of_length_le (by simp; omega)
  rw [e] at h4
  exact h4
theorem CellsAt.srcEnd {w : World} {a : Addr} {k m c : Nat} {rs : List Kr} (hk : rs.length ≤ k) (hm : m = 0) : Src Try.prog 7 43 (.slice (some a) m c) (rs.drop k).length (kcells (rs.drop k)) w := by
  rw [List.drop_of_length_le hk, hm]
  exact Src.ofSlice w Try.underlying43 _ 0 _ [] (by simp) (by simp) (by simp)
theorem OwnKr.addr {w : World} {a : Option Addr} {n c : Nat} {ts : List Kr} {r : Option Nat} (h : OwnKr w (.slice a n c) ts r) {b off : Nat} (e : a = some ⟨b, off, none⟩) : r = some b := by
  rcases h with ⟨e1, _, _⟩ | ⟨g, cap, e1, e2, _⟩
  · rw [e] at e1; cases e1
  · rw [e] at e2
    injection e2 with e3 _ _
    cases e3
    exact e1

theorem kcells_set (ts : List Kr) (j : Nat) (x : Kr) (h : j < ts.length) (i : Nat) : (kcells (ts.set j x))[i]? = if j * 7 ≤ i ∧ i < j * 7 + 7 then x.cells[i - j * 7]? else (kcells ts)[i]? := by
  by_cases hi : i < 7 * ts.length
  · obtain ⟨m, r, hm, hr, rfl⟩ : ∃ m r, m < ts.length ∧ r < 7 ∧ i = m * 7 + r := ⟨i / 7, i % 7, by omega, by omega, by omega⟩
    rw [kcells_get (ts.set j x) m r (by simpa using hm) hr, kcells_get ts m r hm hr]
    by_cases e : m = j
    · subst e
      rw [if_pos (by omega), show m * 7 + r - m * 7 = r by omega]
      simp [hm]
    · rw [if_neg (by omega)]
      congr 2
      simp [Ne.symm e]
  · rw [List.getElem?_eq_none (by rw [kcells_len]; simp; omega), if_neg (by omega), List.getElem?_eq_none (by rw [kcells_len]; omega)]
theorem OwnKr.setK {w : World} {v : Value} {g j : Nat} {ts : List Kr} (x : Kr) (h : OwnKr w v ts (some g)) (hj : j < ts.length) : OwnKr (w.setCells g (j * 7) x.cells) v (ts.set j x) (some g) := by
  rcases h with ⟨_, _, h⟩ | ⟨g', cap, e, rfl, hg, h1, h2, h3, h4, h5⟩
  · simp at h
  · simp at e; subst e
    refine .inr ⟨g, cap, rfl, by simp, by rw [setCells_size]; exact hg, by simpa using h1, h2, fun i hi => ?_, fun i hi => ?_, fun i hi => ?_⟩
    · rw [World.frozen?_setCells]; exact h3 i hi
    · exact isSome_setCells g _ _ w _ (h4 i hi)
    · rw [List.length_set] at hi
      rw [kcells_set ts j x hj i]
      have hxl : x.cells.length = 7 := rfl
      by_cases hin : j * 7 ≤ i ∧ i < j * 7 + 7
      · rw [if_pos hin]
        have := World.cell?_setCells_in g x.cells (j * 7) w (fun m hm => h4 _ (by rw [hxl] at hm; omega)) (i - j * 7) (by rw [hxl]; omega)
        rw [show j * 7 + (i - j * 7) = i by omega] at this
        rw [this, List.getElem?_eq_getElem (by rw [hxl]; omega)]
      · rw [if_neg hin, ← h5 i hi]
        refine World.cell?_setCells_out g _ _ w _ (fun _ _ => ?_)
        rw [hxl]
        simp only
        omega
theorem OwnKr.fz {w : World} {v : Value} {g : Nat} {ts : List Kr} (h : OwnKr w v ts (some g)) {j : Nat} (hj : j < 7 * ts.length) : w.frozen? ⟨g, j, none⟩ = false := by
  rcases h with ⟨_, _, h⟩ | ⟨g', cap, e, rfl, hg, h1, h2, h3, h4, h5⟩
  · simp at h
  · simp at e; subst e
    exact h3 j (by omega)
/-- Cells of a block of which some are written with what a row holds already: only those behind the first i are new. -/
theorem OwnKr.setE {w : World} {v : Value} {g j : Nat} {l : List Ke} (y : En) (h : OwnKr w v (rowK l) (some g)) (hj : j < l.length) : OwnKr (w.setCells g (j * 7 + 1) [.int .i64 y.seg, .int .i64 y.pos, .int .i64 y.size, .int .i64 y.off, .int .i64 y.time, .bool y.tomb]) v (rowK (l.set j ⟨(l.getD j Ke.zero).key, y⟩)) (some g) := by
  have hj' : j < (rowK l).length := by simpa using hj
  have e1 : rowK (l.set j ⟨(l.getD j Ke.zero).key, y⟩) = (rowK l).set j (Ke.r ⟨(l.getD j Ke.zero).key, y⟩) := by simp [rowK, List.map_set]
  have hk : ((rowK l).getD j Kr.zero).key = (l.getD j Ke.zero).key := by rw [rowK_getD l j hj]; rfl
  rw [e1]
  have hc0 := (h.at hj').c0
  have h1 := h.setK (Ke.r ⟨(l.getD j Ke.zero).key, y⟩) hj'
  rcases h with ⟨_, _, h⟩ | ⟨g', cap, e, rfl, hg, g1, g2, g3, g4, g5⟩
  · simp at h
  · simp at e; subst e
    rcases h1 with ⟨_, _, h1⟩ | ⟨g', cap', e, e2, hg', k1, k2, k3, k4, k5⟩
    · simp at h1
    · simp at e; subst e
      have ec : cap' = cap := by injection e2 with _ _ e3; exact e3.symm
      subst ec
      refine .inr ⟨g, cap', rfl, e2, by rw [setCells_size]; exact hg, k1, k2, fun i hi => ?_, fun i hi => ?_, fun i hi => ?_⟩
      · rw [World.frozen?_setCells]; exact g3 i hi
      · exact isSome_setCells g _ _ w _ (g4 i hi)
      · have hkk := k5 i hi
        rw [← hkk]
        have hl7 : (Ke.r ⟨(l.getD j Ke.zero).key, y⟩).cells.length = 7 := rfl
        by_cases hin : j * 7 + 1 ≤ i ∧ i < j * 7 + 7
        · have a1 := World.cell?_setCells_in g [.int .i64 y.seg, .int .i64 y.pos, .int .i64 y.size, .int .i64 y.off, .int .i64 y.time, .bool y.tomb] (j * 7 + 1) w (fun m hm => g4 _ (by simp at hm hj'; omega)) (i - (j * 7 + 1)) (by simp; omega)
          have a2 := World.cell?_setCells_in g (Ke.r ⟨(l.getD j Ke.zero).key, y⟩).cells (j * 7) w (fun m hm => g4 _ (by rw [hl7] at hm; simp at hj'; omega)) (i - j * 7) (by rw [hl7]; omega)
          rw [show j * 7 + 1 + (i - (j * 7 + 1)) = i by omega] at a1
          rw [show j * 7 + (i - j * 7) = i by omega] at a2
          rw [a1, a2]
          obtain ⟨m, rfl⟩ : ∃ m, i = j * 7 + 1 + m := ⟨i - (j * 7 + 1), by omega⟩
          have hm6 : m < 6 := by omega
          simp only [show j * 7 + 1 + m - (j * 7 + 1) = m by omega, show j * 7 + 1 + m - j * 7 = m + 1 by omega]
          rfl
        · rw [World.cell?_setCells_out g _ _ w _ (fun _ _ => by simp; omega)]
          by_cases hz : i = j * 7
          · subst hz
            have a2 := World.cell?_setCells_in g (Ke.r ⟨(l.getD j Ke.zero).key, y⟩).cells (j * 7) w (fun m hm => g4 _ (by rw [hl7] at hm; simp at hj'; omega)) 0 (by rw [hl7]; omega)
            rw [Nat.add_zero] at a2
            rw [a2, hc0, hk]
            rfl
          · rw [World.cell?_setCells_out g _ _ w _ (fun _ _ => by rw [hl7]; simp only; omega)]

theorem split_k {l : List Ke} {k : Nat} (h : k < l.length) : l = l.take k ++ l.getD k Ke.zero :: l.drop (k + 1) := by
  have e : l.getD k Ke.zero = l[k] := by rw [List.getD_eq_getElem?_getD, List.getElem?_eq_getElem h]; rfl
  rw [e, ← List.drop_eq_getElem_cons h, List.take_append_drop]
theorem ins_found {l : List Ke} {key : ByteArray} {en : En} {x : Ke} (hs : Srt l) (hf : findL key l = some x) : insL key en l = l.set (rankL key l) ⟨(l.getD (rankL key l) Ke.zero).key, en⟩ := by
  obtain ⟨_, h1, h2⟩ := at_found hs hf
  have hk := (findL_is hf).2
  generalize rankL key l = k at *
  have e := split_k h1
  rw [List.set_eq_take_append_cons_drop, if_pos h1]
  rw [h2] at e ⊢
  conv => lhs; rw [e]
  rw [e] at hs
  rw [insL_eq hs (by rw [hk]; exact kc_self _)]
theorem del_found {l : List Ke} {key : ByteArray} {x : Ke} (hs : Srt l) (hf : findL key l = some x) : delL key l = l.take (rankL key l) ++ l.drop (rankL key l + 1) := by
  obtain ⟨_, h1, h2⟩ := at_found hs hf
  have hk := (findL_is hf).2
  generalize rankL key l = k at *
  have e := split_k h1
  rw [h2] at e
  conv => lhs; rw [e]
  rw [e] at hs
  rw [delL_eq hs (by rw [hk]; exact kc_self _)]
theorem find_none {l : List Ke} {key : ByteArray} (hf : findL key l = none) : ∀ y ∈ l, kc key y.key ≠ 0 := by
  intro y hy
  unfold findL at hf
  rw [List.find?_eq_none] at hf
  simpa using hf y hy
theorem ins_lost {key : ByteArray} {en : En} : ∀ {l : List Ke}, Srt l → (∀ y ∈ l, kc key y.key ≠ 0) → insL key en l = l.take (rankL key l) ++ [⟨key, en⟩] ++ l.drop (rankL key l)
  | [], _, _ => by simp [insL, rankL]
  | x :: xs, hs, hn => by
    have hx := hn x (by simp)
    have hs' : Srt xs := by unfold Srt at *; exact (List.pairwise_cons.mp hs).2
    rcases kc_range key x.key with h | h | h
    · have h2 : rankL key (x :: xs) = 0 := rankL_none fun y hy hh => by
        rcases List.mem_cons.mp hy with e | e
        · rw [e] at hh
          have := kc_neg key x.key
          omega
        · have h3 : kc x.key y.key = -1 := (List.pairwise_cons.mp hs).1 y e
          have h4 := kc_trans h h3
          have := kc_neg key y.key
          omega
      rw [h2]
      simp [insL, h]
    · exact absurd h hx
    · have h2 : kc x.key key = -1 := by have := kc_neg key x.key; omega
      rw [insL, if_neg (by omega), if_neg (by omega), ins_lost hs' (fun y hy => hn y (by simp [hy])), rankL_cons, if_pos h2]
      rw [show 1 + rankL key xs = rankL key xs + 1 by omega]
      simp
end Go.Proofs.Ytjhbaplnkigifaa
