import Derived.Test.YthcnhjmkcekdaaaGreatQs19
import Derived.Test.YthcnhjmkcekdaaaGreatQs20
import Derived.BigQuiet
namespace Go.Proofs.YthcnhjmkcekdaaaGreat
open Go.RowKit Go.Maps Plain
set_option linter.unusedVariables false
set_option linter.unusedSimpArgs false
theorem row_nw {w : World} {a : Option Addr} {n c : Nat} {l : List (Nm × Nat)} {r : Option Nat} (h : OwnNw w (.slice a n c) (l.map nwOf) r) {i : Nat} (hi : i < l.length) : ∃ g, a = some ⟨g, 0, none⟩ ∧ r = some g ∧ w.cell? ⟨g, i * 2, none⟩ = some (.string (str (l.getD i ([], 0)).1)) ∧ w.cell? ⟨g, i * 2 + 1, none⟩ = some (.int .i64 ((l.getD i ([], 0)).2 : Int)) := by
  have hne : l.map nwOf ≠ [] := fun e => by have := congrArg List.length e; simp at this; rw [this] at hi; simp at hi
  have hc0 := h
  rcases h with ⟨-, e, -⟩ | ⟨g, cap, e1, e2, -⟩
  · exact absurd e hne
  · injection e2 with e3 e4 e5
    subst e1
    have hc := hc0.at (j := i) (by simpa using hi)
    have e6 : (l.map nwOf).getD i Nw.zero = nwOf (l.getD i ([], 0)) := by
      rw [List.getD_eq_getElem?_getD, List.getElem?_map, List.getD_eq_getElem?_getD, List.getElem?_eq_getElem hi]; rfl
    rw [e6] at hc
    exact ⟨g, e3, rfl, hc.c0, hc.c1⟩
theorem txt_eq {a : Nm} {s : ByteArray} : ((str a).toList == s.toList) = (a == s.data.toList) := by
  rw [ByteArray.toList_eq, ByteArray.toList_eq, str_list]
theorem lead_step {l : List (Nm × Nat)} {s : Nm} {i : Nat} (h : ∀ j, j < i → (l.getD j ([], 0)).1 ≠ s) : (i < l.length → (l.getD i ([], 0)).1 = s → leadL l s = ((l.getD i ([], 0)).2 : Int)) ∧ (l.length ≤ i → leadL l s = -1) := by
  constructor
  · intro hi e
    unfold leadL
    have : l.find? (fun x => x.1 == s) = some (l.getD i ([], 0)) := by
      rw [List.find?_eq_some_iff_getElem]
      refine ⟨by rw [e]; simp, i, hi, by rw [List.getD_eq_getElem?_getD, List.getElem?_eq_getElem hi]; rfl, fun j hj => ?_⟩
      have := h j hj
      rw [List.getD_eq_getElem?_getD, List.getElem?_eq_getElem (by omega)] at this
      simpa using this
    rw [this]; rfl
  · intro hi
    unfold leadL
    have : l.find? (fun x => x.1 == s) = none := by
      rw [List.find?_eq_none]
      intro x hx
      obtain ⟨j, hj, e⟩ := List.getElem_of_mem hx
      have := h j (by omega)
      rw [List.getD_eq_getElem?_getD, List.getElem?_eq_getElem hj] at this
      rw [← e]
      simpa using this
    rw [this]; rfl
end Go.Proofs.YthcnhjmkcekdaaaGreat

namespace Go.Proofs.YthcnhjmkcekdaaaGreat
open Go.RowKit Go.Maps Plain
set_option linter.unusedVariables false
set_option linter.unusedSimpArgs false
theorem src_nw (W : World) (x : Nw) : Src Tryz.prog 2 78 (.slice (some ⟨W.heap.size, 0, none⟩) 1 1) [x].length (nwcells [x]) (W.alloc (.cells #[.string x.text, .int .i64 x.file] 85)) :=
  Src.ofSlice _ Tryz.underlying78 _ 1 1 _ (by rfl) (fun j u hj => by
    rw [WideShapes.add_plain, World.cell?_alloc_at _ _ _ _ rfl, Nat.zero_add]
    rw [← hj]; simp [nwcells, Nw.cells]) (fun u hu => by
    simp [nwcells, Nw.cells] at hu
    rcases hu with rfl | rfl <;> rfl)
/-- A row of names that was made behind world W. -/
structure NwNew (W w : World) (v : Value) (ts : List Nw) (r : Option Nat) : Prop where
  row : OwnNw w v ts r
  new : ∀ g, r = some g → W.heap.size ≤ g
  below : Below W.heap.size W w
theorem NwNew.nil (W : World) : NwNew W W (.slice none 0 0) [] none := ⟨OwnNw.nil _, by simp, Below.refl _ _⟩
theorem NwNew.later {W w w' : World} {v : Value} {ts : List Nw} {r : Option Nat} (h : NwNew W w v ts r) (hb : Below w.heap.size w w') : NwNew W w' v ts r := ⟨h.row.later hb, h.new, h.below.trans (hb.mono h.below.size)⟩
theorem NwNew.app {W w w' : World} {v v' : Value} {ts ts' : List Nw} {r : Option Nat} {g : Nat} (h : NwNew W w v ts r) (ho : OwnNw w' v' ts' (some g)) (hg : w.grownBy w' r) (hr : some g = r ∨ g = w.heap.size) : NwNew W w' v' ts' (some g) := by
  have hs := h.below.size
  refine ⟨ho, fun g' e => ?_, h.below.grown hg h.below.size (fun k e => h.new k e)⟩
  cases e
  rcases hr with e | e
  · exact h.new g e.symm
  · omega
theorem left_take {l : List (Nm × Nat)} {s : Nm} {k : Nat} (h : k < l.length) : leftL (l.take (k + 1)) s = if (l.getD k ([], 0)).1 = s then leftL (l.take k) s else leftL (l.take k) s ++ [l.getD k ([], 0)] := by
  have e : l.getD k ([], 0) = l[k] := by rw [List.getD_eq_getElem?_getD, List.getElem?_eq_getElem h]; rfl
  unfold leftL
  rw [List.take_succ_eq_append_getElem h, List.filter_append, e]
  by_cases hh : l[k].1 = s
  · rw [if_pos hh]; simp [hh]
  · rw [if_neg hh]; simp [hh]
theorem left_len (l : List (Nm × Nat)) (s : Nm) : (leftL l s).length ≤ l.length := List.length_filter_le ..
end Go.Proofs.YthcnhjmkcekdaaaGreat

namespace Go.Proofs.YthcnhjmkcekdaaaGreat
open Go.RowKit Go.Maps Plain
set_option linter.unusedVariables false
set_option linter.unusedSimpArgs false
theorem Hid.mkR {p : Prop} (h : p) : Hid p := h
theorem RdM.row {w : World} {gp : Nat} {k : Rk} {B : Nat → Prop} {blk : Nat → Option Nat} {vF vD : Value} {xs : List Ino} {dv : List Value} {sv tv : Nat → List Value} (h : RdM w gp k B blk vF vD xs dv sv tv) {j : Nat} (hj : j < k.ps.dirs.length) :
    ∃ gD capD a c r, vD = .slice (some ⟨gD, 0, none⟩) k.ps.dirs.length capD ∧ w.cell? ⟨gD, j, none⟩ = some (.slice a (k.ps.dirs.getD j []).length c) ∧ OwnNw w (.slice a (k.ps.dirs.getD j []).length c) ((k.ps.dirs.getD j []).map nwOf) r ∧ (∀ g, r = some g → B g) ∧ dv.getD j undef = .slice a (k.ps.dirs.getD j []).length c ∧ blk 1 = some gD := by
  obtain ⟨aD, cD, e, -, -⟩ := h.D.shape
  rw [h.dl] at e
  subst e
  have hjd : j < dv.length := by rw [h.dl]; exact hj
  obtain ⟨r, h1, h2⟩ := h.df j hjd
  obtain ⟨a, c, e2, -, -⟩ := h1.shape
  rw [List.length_map] at e2
  have hget : dv[j]? = some (dv.getD j undef) := by rw [List.getD_eq_getElem?_getD, List.getElem?_eq_getElem hjd]; rfl
  obtain ⟨g, e3, e4, e5⟩ := h.D.get hget
  rw [e2] at e5 h1
  exact ⟨g, cD, a, c, r, by rw [e4], e5, h1, h2, e2, e3⟩
/-- What is seen. -/
theorem RdM.see {w : World} {gp : Nat} {k : Rk} {B : Nat → Prop} {blk : Nat → Option Nat} {vF vD : Value} {xs : List Ino} {dv : List Value} {sv tv : Nat → List Value} (h : RdM w gp k B blk vF vD xs dv sv tv) (h1 : 1 ≤ k.ps.dirs.length) :
    ∃ a c r, dv.getD (k.ps.dirs.length - 1) undef = .slice a k.ps.last.length c ∧ OwnNw w (.slice a k.ps.last.length c) (k.ps.last.map nwOf) r ∧ ∀ g, r = some g → B g := by
  obtain ⟨gD, capD, a, c, r, -, -, e3, e4, e5, -⟩ := h.row (j := k.ps.dirs.length - 1) (by omega)
  exact ⟨a, c, r, e5, e3, e4⟩
set_option maxHeartbeats 4000000 in
set_option maxRecDepth 100000 in
theorem seenOf {w : World} {gp : Nat} {k : Rk} {B : Nat → Prop} {blk : Nat → Option Nat} {vF vD : Value} {xs : List Ino} {dv : List Value} {sv tv : Nat → List Value} (h : RdM w gp k B blk vF vD xs dv sv tv) (h1 : 1 ≤ k.ps.dirs.length) (hdl : k.ps.dirs.length ≤ 4398046511103) :
    Calls Tryz.prog 53 #[.pointer (some ⟨gp, 0, none⟩)] w fun e w' => e = .returned (dv.getD (k.ps.dirs.length - 1) undef) ∧ ∃ n, w' = w.drewN n := by
  obtain ⟨gD, capD, a, c, r, rfl, hcd, hrow, -, e, -⟩ := h.row (j := k.ps.dirs.length - 1) (by omega)
  have c2 := (rcells h.cells).1.2.1
  rw [e]
  clear hrow h e
  generalize (k.ps.dirs.getD (k.ps.dirs.length - 1) []).length = M at *
  generalize k.ps.dirs.length = N at *
  have hN1 : (N : Int) - 1 = ((N - 1 : Nat) : Int) := by omega
  have hNl : ((N - 1 : Nat) : Int) < (N : Int) := by omega
  go_enter Tryz.func53, Tryz.ntmps53
  go_wp2
  go_quiet (fail)
  go_wp2
  go_ret
  exact ⟨rfl, nq, rfl⟩
set_option maxHeartbeats 4000000 in
set_option maxRecDepth 100000 in
theorem findR {w : World} {gp : Nat} {k : Rk} {B : Nat → Prop} {blk : Nat → Option Nat} {vF vD : Value} {xs : List Ino} {dv : List Value} {sv tv : Nat → List Value} (h : RdM w gp k B blk vF vD xs dv sv tv) (h1 : 1 ≤ k.ps.dirs.length) (s : ByteArray) (hl : k.ps.last.length ≤ 2199023255000) (hdl : k.ps.dirs.length ≤ 4398046511103) :
    Calls Tryz.prog 51 #[.pointer (some ⟨gp, 0, none⟩), .string s] w fun e w' => e = .returned (.int .i64 (leadL k.ps.last s.data.toList)) ∧ ∃ n, w' = w.drewN n := by
  have HSE := Hid.mkR (seenOf h h1 hdl)
  obtain ⟨a, c, r, e, hrow, -⟩ := h.see h1
  rw [e] at HSE
  have HR : Hid (OwnNw w (.slice a k.ps.last.length c) (k.ps.last.map nwOf) r) := hrow
  clear hrow h e
  generalize k.ps.last = l at *
  go_enter Tryz.func51, Tryz.ntmps51
  go_wp2_with fail
  refine HSE.out.mono ?_
  rintro e w' ⟨rfl, nq, rfl⟩
  clear HSE
  go_wp2
  go_loopw [6] (fun i wr => ∃ k : Nat, k ≤ l.length ∧ i = .int .i64 k ∧ Hid (∃ n, wr = w.drewN n) ∧ Hid (∀ j, j < k → (l.getD j ([], 0)).1 ≠ s.data.toList)) (fun i _ => l.length - (intOf i).toNat)
  case atStart => exact ⟨0, by omega, rfl, ⟨_, rfl⟩, fun j hj => by omega⟩
  case round =>
    obtain ⟨k, hk, rfl, HD, HB⟩ := hrel
    obtain ⟨n, hn⟩ := HD.out
    by_cases hlt : k < l.length
    · have hki : (k : Int) < (l.length : Int) := by omega
      obtain ⟨g, rfl, rfl, d0, d1⟩ := row_nw (HR.out.later (below_drewN (Below.refl _ _) n)) hlt
      rw [← hn] at d0 d1
      by_cases he : (l.getD k ([], 0)).1 = s.data.toList
      · have HL : Hid (leadL l s.data.toList = ((l.getD k ([], 0)).2 : Int)) := (lead_step HB.out).1 hlt he
        have hbe : ((str (l.getD k ([], 0)).1).toList == s.toList) = true := by rw [txt_eq]; simpa using he
        have HD2 : Hid (∃ n, wr = w.drewN n) := ⟨n, hn⟩
        clear hn he
        generalize l.getD k ([], 0) = x at d0 d1 hbe HL
        go_wp2
        go_ret
        exact ⟨by rw [HL.out]; try rfl, HD2.out⟩
      · have hbe : ((str (l.getD k ([], 0)).1).toList == s.toList) = false := by rw [txt_eq]; simpa using he
        have HB2 : Hid (∀ j, j < k + 1 → (l.getD j ([], 0)).1 ≠ s.data.toList) := fun j hj => by
          by_cases e : j = k
          · subst e; exact he
          · exact HB.out j (by omega)
        have HD2 : Hid (∃ n, wr = w.drewN n) := ⟨n, hn⟩
        clear hn he
        generalize l.getD k ([], 0) = x at d0 d1 hbe
        go_wp2
        go_roundw
        case rel => exact ⟨k + 1, by omega, by go_num, HD2, HB2⟩
        case measure => simp [intOf]; omega
    · have HL : Hid (leadL l s.data.toList = -1) := (lead_step HB.out).2 (by omega)
      have HD2 : Hid (∃ n, wr = w.drewN n) := ⟨n, hn⟩
      clear hn
      go_wp2
      go_ret
      exact ⟨by rw [HL.out]; try rfl, HD2.out⟩
/-- A file's last bytes. -/
def Ps.now (p : Ps) (f : Nat) : List Nat := (p.files.getD f []).getD ((p.files.getD f []).length - 1) []
/-- The cells that lead to a file's state. -/
theorem RdM.state {w : World} {gp : Nat} {k : Rk} {B : Nat → Prop} {blk : Nat → Option Nat} {vF vD : Value} {xs : List Ino} {dv : List Value} {sv tv : Nat → List Value} (h : RdM w gp k B blk vF vD xs dv sv tv) {f j : Nat} (hf : f < k.ps.files.length) (hj : j < (k.ps.files.getD f []).length) :
    ∃ gF capF gi cF a c r, vF = .slice (some ⟨gF, 0, none⟩) k.ps.files.length capF ∧ blk 0 = some gF ∧ w.cell? ⟨gF, f * 2, none⟩ = some (.slice (some ⟨gi, 0, none⟩) (k.ps.files.getD f []).length cF) ∧ blk (2 * f + 2) = some gi ∧ w.cell? ⟨gi, j, none⟩ = some (.slice a ((k.ps.files.getD f []).getD j []).length c) ∧ (sv f).getD j undef = .slice a ((k.ps.files.getD f []).getD j []).length c ∧ Own w (.slice a ((k.ps.files.getD f []).getD j []).length c) ((k.ps.files.getD f []).getD j []) r ∧ (∀ g, r = some g → B g) ∧ (xs.getD f Ino.zero).st = .slice (some ⟨gi, 0, none⟩) (k.ps.files.getD f []).length cF := by
  have hfx : f < xs.length := by rw [h.fl]; exact hf
  obtain ⟨gF, capF, e1, e2, e3, -, -, -⟩ := h.F.full hfx
  rw [h.fl] at e2
  have hjs : j < (sv f).length := by rw [h.sl f hfx]; exact hj
  obtain ⟨aS, cS, e4, -, -⟩ := (h.S f hfx).shape
  rw [h.sl f hfx] at e4
  have hget : (sv f)[j]? = some ((sv f).getD j undef) := by rw [List.getD_eq_getElem?_getD, List.getElem?_eq_getElem hjs]; rfl
  have hS := h.S f hfx
  rw [e4] at hS e3
  obtain ⟨gi, e5, e6, e7⟩ := hS.get hget
  obtain ⟨r, ho, hr⟩ := h.sf f hfx j hjs
  obtain ⟨a, c, e8, -, -⟩ : ∃ a c, (sv f).getD j undef = .slice a ((k.ps.files.getD f []).getD j []).length c ∧ True ∧ True := by
    obtain ⟨a, c, e8, -⟩ := ho.bytes
    exact ⟨a, c, e8, trivial, trivial⟩
  rw [e6] at e3 e4
  rw [e8] at e7 ho
  exact ⟨gF, capF, gi, cS, a, c, r, e2, e1, e3, e5, e7, e8, ho, hr, e4⟩
set_option maxHeartbeats 4000000 in
set_option maxRecDepth 100000 in
theorem bytesOf {w : World} {gp : Nat} {k : Rk} {B : Nat → Prop} {blk : Nat → Option Nat} {vF vD : Value} {xs : List Ino} {dv : List Value} {sv tv : Nat → List Value} (h : RdM w gp k B blk vF vD xs dv sv tv) {f : Nat} (hf : f < k.ps.files.length) (h1 : 1 ≤ (k.ps.files.getD f []).length) (hfl : k.ps.files.length ≤ 4398046511103) (hsl : (k.ps.files.getD f []).length ≤ 4398046511103) :
    Calls Tryz.prog 55 #[.pointer (some ⟨gp, 0, none⟩), .int .i64 f] w fun e w' => e = .returned ((sv f).getD ((k.ps.files.getD f []).length - 1) undef) ∧ ∃ n, w' = w.drewN n := by
  obtain ⟨gF, capF, gi, cF, a, c, r, rfl, -, c0, -, c1, e, -, -, -⟩ := h.state hf (j := (k.ps.files.getD f []).length - 1) (by omega)
  have k0 := (rcells h.cells).1.1
  rw [e]
  clear e h
  have hfi : (f : Int) < (k.ps.files.length : Int) := by omega
  have hf0 : (0 : Int) ≤ (f : Int) := by omega
  generalize ((k.ps.files.getD f []).getD ((k.ps.files.getD f []).length - 1) []).length = LN at *
  generalize (k.ps.files.getD f []).length = M at *
  have hN1 : (M : Int) - 1 = ((M - 1 : Nat) : Int) := by omega
  have hNl : ((M - 1 : Nat) : Int) < (M : Int) := by omega
  go_enter Tryz.func55, Tryz.ntmps55
  go_wp2
  go_quiet (fail)
  go_wp2
  go_ret
  exact ⟨rfl, nq, rfl⟩
end Go.Proofs.YthcnhjmkcekdaaaGreat

namespace Go.Proofs.YthcnhjmkcekdaaaGreat
open Go.RowKit Go.Maps Plain
set_option linter.unusedVariables false
set_option linter.unusedSimpArgs false
theorem okc_alnum {c : Nat} (h : okc c = true) (h1 : c ≠ 46) (h2 : c ≠ 45) (h3 : c ≠ 95) : alnum c = true := by
  unfold okc at h
  simpa [h1, h2, h3] using h
theorem alnum_not {c : Nat} (h : c = 46 ∨ c = 45 ∨ c = 95) : alnum c = false := by
  rcases h with rfl | rfl | rfl <;> rfl
theorem okc_yes {c : Nat} (h : (97 ≤ c ∧ c ≤ 122) ∨ (48 ≤ c ∧ c ≤ 57) ∨ c = 46 ∨ c = 45 ∨ c = 95) : okc c = true := by
  unfold okc alnum
  simp
  omega
set_option maxHeartbeats 4000000 in
set_option maxRecDepth 100000 in
theorem rnameF (s : ByteArray) (w : World) (hs : s.size ≤ maxLen) : Calls Tryz.prog 37 #[.string s] w fun e w' => e = .returned (.bool (nmL s.data.toList)) ∧ w' = w := by
  unfold maxLen at hs
  by_cases h0 : s.size = 0
  · rw [nm_size (.inl h0)]
    have h1 : (s.size : Int) < 1 := by omega
    clear h0
    go_enter Tryz.func37, Tryz.ntmps37
    go_wp2
    go_ret
    exact ⟨rfl, rfl⟩
  have h1 : ¬ (s.size : Int) < 1 := by omega
  by_cases h32 : 32 < s.size
  · rw [nm_size (.inr h32)]
    have h3 : (s.size : Int) > 32 := by omega
    clear h0
    go_enter Tryz.func37, Tryz.ntmps37
    go_wp2
    go_ret
    exact ⟨rfl, rfl⟩
  have h2 : ¬ ((s.size : Int) > 32) := by omega
  have hp : 0 < s.size := by omega
  have hc := u8lt (s[0]'hp)
  by_cases e1 : (s[0]'hp).toNat = 46
  · have HN : Hid (nmL s.data.toList = false) := nm_first hp (alnum_not (.inl e1))
    have q1 : (((s[0]'hp).toNat : Int) == 46) = true := by rw [e1]; rfl
    clear e1 h0
    go_enter Tryz.func37, Tryz.ntmps37
    go_wp2
    go_ret
    exact ⟨retBo HN.out.symm, rfl⟩
  have q1 : (((s[0]'hp).toNat : Int) == 46) = false := beq_eq_false_iff_ne.mpr (by omega)
  by_cases e2 : (s[0]'hp).toNat = 45
  · have HN : Hid (nmL s.data.toList = false) := nm_first hp (alnum_not (.inr (.inl e2)))
    have q2 : (((s[0]'hp).toNat : Int) == 45) = true := by rw [e2]; rfl
    clear e1 e2 h0
    go_enter Tryz.func37, Tryz.ntmps37
    go_wp2
    go_ret
    exact ⟨retBo HN.out.symm, rfl⟩
  have q2 : (((s[0]'hp).toNat : Int) == 45) = false := beq_eq_false_iff_ne.mpr (by omega)
  by_cases e3 : (s[0]'hp).toNat = 95
  · have HN : Hid (nmL s.data.toList = false) := nm_first hp (alnum_not (.inr (.inr e3)))
    have q3 : (((s[0]'hp).toNat : Int) == 95) = true := by rw [e3]; rfl
    clear e1 e2 e3 h0
    go_enter Tryz.func37, Tryz.ntmps37
    go_wp2
    go_ret
    exact ⟨retBo HN.out.symm, rfl⟩
  have q3 : (((s[0]'hp).toNat : Int) == 95) = false := beq_eq_false_iff_ne.mpr (by omega)
  have HAL : Hid (okc (s[0]'hp).toNat = true → alnum (s[0]'hp).toNat = true) := fun h => okc_alnum h e1 e2 e3
  clear e1 e2 e3 h0
  go_enter Tryz.func37, Tryz.ntmps37
  go_wp2
  go_loopw [3] (fun s3 wx => ∃ k : Nat, k ≤ s.size ∧ s3 = .int .i64 k ∧ wx = w ∧ Hid (∀ i (h : i < s.size), i < k → okc (s[i]'h).toNat = true)) (fun s _ => 100 - (intOf s).toNat)
  case atStart => exact ⟨0, by omega, rfl, rfl, fun i h hi => by omega⟩
  case round =>
    obtain ⟨k, hk, rfl, rfl, HK⟩ := hrel
    clear q1 q2 q3
    by_cases hlt : k < s.size
    · have HNX : Hid (okc (s[k]'hlt).toNat = true → ∀ i (h : i < s.size), i < k + 1 → okc (s[i]'h).toNat = true) := fun ho i h hi => by
        by_cases e : i = k
        · subst e; exact ho
        · exact HK.out i h (by omega)
      have HBD : Hid (okc (s[k]'hlt).toNat = false → nmL s.data.toList = false) := nm_bad hlt
      have hc := u8lt (s[k]'hlt)
      cases ho : okc (s[k]'hlt).toNat with
      | true =>
        have HO := Hid.mkR (HNX.out ho)
        have hcs : (97 ≤ (s[k]'hlt).toNat ∧ (s[k]'hlt).toNat ≤ 122) ∨ (48 ≤ (s[k]'hlt).toNat ∧ (s[k]'hlt).toNat ≤ 57) ∨ (s[k]'hlt).toNat = 46 ∨ (s[k]'hlt).toNat = 45 ∨ (s[k]'hlt).toNat = 95 := by
          unfold okc alnum at ho
          simp at ho
          omega
        clear ho HNX HBD
        rcases hcs with a | a | a | a | a
        · have p1 : ¬ ((s[k]'hlt).toNat : Int) < 97 := by omega
          have p2 : ¬ ((s[k]'hlt).toNat : Int) > 122 := by omega
          clear a
          go_wp2
          go_roundw
          case rel => exact ⟨k + 1, by omega, by go_num, by trivial, HO.out⟩
          case measure => simp [intOf]; omega
        · have p0 : ((s[k]'hlt).toNat : Int) < 97 := by omega
          have p1 : ¬ ((s[k]'hlt).toNat : Int) < 48 := by omega
          have p2 : ¬ ((s[k]'hlt).toNat : Int) > 57 := by omega
          clear a
          go_wp2
          go_roundw
          case rel => exact ⟨k + 1, by omega, by go_num, by trivial, HO.out⟩
          case measure => simp [intOf]; omega
        · have p0 : ((s[k]'hlt).toNat : Int) < 97 := by omega
          have p1 : ((s[k]'hlt).toNat : Int) < 48 := by omega
          have p3 : (((s[k]'hlt).toNat : Int) != 46) = false := by rw [a]; rfl
          clear a
          go_wp2
          go_roundw
          case rel => exact ⟨k + 1, by omega, by go_num, by trivial, HO.out⟩
          case measure => simp [intOf]; omega
        · have p0 : ((s[k]'hlt).toNat : Int) < 97 := by omega
          have p1 : ((s[k]'hlt).toNat : Int) < 48 := by omega
          have p3 : (((s[k]'hlt).toNat : Int) != 46) = true := by rw [a]; rfl
          have p4 : (((s[k]'hlt).toNat : Int) != 45) = false := by rw [a]; rfl
          clear a
          go_wp2
          go_roundw
          case rel => exact ⟨k + 1, by omega, by go_num, by trivial, HO.out⟩
          case measure => simp [intOf]; omega
        · have p0 : ((s[k]'hlt).toNat : Int) < 97 := by omega
          have p1 : ¬ ((s[k]'hlt).toNat : Int) < 48 := by omega
          have p2 : ((s[k]'hlt).toNat : Int) > 57 := by omega
          have p3 : (((s[k]'hlt).toNat : Int) != 46) = true := by rw [a]; rfl
          have p4 : (((s[k]'hlt).toNat : Int) != 45) = true := by rw [a]; rfl
          have p5 : (((s[k]'hlt).toNat : Int) != 95) = false := by rw [a]; rfl
          clear a
          go_wp2
          go_roundw
          case rel => exact ⟨k + 1, by omega, by go_num, by trivial, HO.out⟩
          case measure => simp [intOf]; omega
      | false =>
        have HN := Hid.mkR (HBD.out ho)
        have hcs : ((s[k]'hlt).toNat < 97 ∨ 122 < (s[k]'hlt).toNat) ∧ ((s[k]'hlt).toNat < 48 ∨ 57 < (s[k]'hlt).toNat) ∧ (s[k]'hlt).toNat ≠ 46 ∧ (s[k]'hlt).toNat ≠ 45 ∧ (s[k]'hlt).toNat ≠ 95 := by
          refine Decidable.byContradiction fun hh => ?_
          have := okc_yes (c := (s[k]'hlt).toNat) (by omega)
          rw [ho] at this
          cases this
        clear ho HNX HBD
        have p3 : (((s[k]'hlt).toNat : Int) != 46) = true := by simp only [bne_iff_ne, ne_eq]; omega
        have p4 : (((s[k]'hlt).toNat : Int) != 45) = true := by simp only [bne_iff_ne, ne_eq]; omega
        have p5 : (((s[k]'hlt).toNat : Int) != 95) = true := by simp only [bne_iff_ne, ne_eq]; omega
        obtain ⟨a, b, -⟩ := hcs
        rcases a with a | a <;> rcases b with b | b
        · have p0 : ((s[k]'hlt).toNat : Int) < 97 := by omega
          have p1 : ((s[k]'hlt).toNat : Int) < 48 := by omega
          clear a b
          go_wp2
          go_ret
          exact ⟨retBo HN.out.symm, rfl⟩
        · have p0 : ((s[k]'hlt).toNat : Int) < 97 := by omega
          have p1 : ¬ ((s[k]'hlt).toNat : Int) < 48 := by omega
          have p2 : ((s[k]'hlt).toNat : Int) > 57 := by omega
          clear a b
          go_wp2
          go_ret
          exact ⟨retBo HN.out.symm, rfl⟩
        · omega
        · have p0 : ¬ ((s[k]'hlt).toNat : Int) < 97 := by omega
          have p00 : ((s[k]'hlt).toNat : Int) > 122 := by omega
          have p1 : ¬ ((s[k]'hlt).toNat : Int) < 48 := by omega
          have p2 : ((s[k]'hlt).toNat : Int) > 57 := by omega
          clear a b
          go_wp2
          go_ret
          exact ⟨retBo HN.out.symm, rfl⟩
    · have hke : k = s.size := by omega
      have HG : Hid (nmL s.data.toList = true) := nm_good hp (by omega) (HAL.out (HK.out 0 hp (by omega))) (fun i h => HK.out i h (by omega))
      clear hke
      go_wp2
      go_ret
      exact ⟨retBo HG.out.symm, rfl⟩
/-- The flags. -/
theorem RdAt.fl {w : World} {gp : Nat} {k : Rk} {T : Nat → Prop} (h : RdAt w gp k T) : w.cell? ⟨gp, 2, none⟩ = some (.int .i64 k.most) ∧ w.cell? ⟨gp, 3, none⟩ = some (.int .i64 k.left) ∧ w.cell? ⟨gp, 4, none⟩ = some (.bool k.off) ∧ w.cell? ⟨gp, 5, none⟩ = some (.int .i64 k.done) ∧ w.frozen? ⟨gp, 2, none⟩ = false ∧ w.frozen? ⟨gp, 3, none⟩ = false ∧ w.frozen? ⟨gp, 4, none⟩ = false ∧ w.frozen? ⟨gp, 5, none⟩ = false := by
  obtain ⟨B, blk, vF, vD, xs, dv, sv, tv, h1, h2⟩ := h
  obtain ⟨⟨c0, c1, c2, c3, c4, c5⟩, f0, f1, f2, f3, f4, f5⟩ := rcells h1.cells
  exact ⟨c2, c3, c4, c5, f2, f3, f4, f5⟩
theorem RdAt.setM {w : World} {gp : Nat} {k : Rk} {T : Nat → Prop} (h : RdAt w gp k T) (m : Int) : RtP gp ⟨k.ps, m, k.left, k.off, k.done⟩ T w (w.setCell ⟨gp, 2, none⟩ (.int .i64 m)) := by
  obtain ⟨B, blk, vF, vD, xs, dv, sv, tv, h1, h2⟩ := h
  have hT : T gp := h2 gp (.inl rfl)
  have hc : Chg (fun g => g = gp) w (w.setCell ⟨gp, 2, none⟩ (.int .i64 m)) := (Chg.refl _ _).grown (grow_set w gp 2 _) (fun g e => .inl (by cases e; rfl))
  exact (h1.flags hc (rset h1.cells 2 _)).to (hc.mono (fun g e => by rw [e]; exact hT)) hT (fun i g e => .inl (h2 g (.inr (.inl ⟨i, e⟩)))) (fun g e => .inl (h2 g (.inr (.inr e))))
theorem RdAt.setL {w : World} {gp : Nat} {k : Rk} {T : Nat → Prop} (h : RdAt w gp k T) (m : Int) : RtP gp ⟨k.ps, k.most, m, k.off, k.done⟩ T w (w.setCell ⟨gp, 3, none⟩ (.int .i64 m)) := by
  obtain ⟨B, blk, vF, vD, xs, dv, sv, tv, h1, h2⟩ := h
  have hT : T gp := h2 gp (.inl rfl)
  have hc : Chg (fun g => g = gp) w (w.setCell ⟨gp, 3, none⟩ (.int .i64 m)) := (Chg.refl _ _).grown (grow_set w gp 3 _) (fun g e => .inl (by cases e; rfl))
  exact (h1.flags hc (rset h1.cells 3 _)).to (hc.mono (fun g e => by rw [e]; exact hT)) hT (fun i g e => .inl (h2 g (.inr (.inl ⟨i, e⟩)))) (fun g e => .inl (h2 g (.inr (.inr e))))
theorem RdAt.setO {w : World} {gp : Nat} {k : Rk} {T : Nat → Prop} (h : RdAt w gp k T) (m : Bool) : RtP gp ⟨k.ps, k.most, k.left, m, k.done⟩ T w (w.setCell ⟨gp, 4, none⟩ (.bool m)) := by
  obtain ⟨B, blk, vF, vD, xs, dv, sv, tv, h1, h2⟩ := h
  have hT : T gp := h2 gp (.inl rfl)
  have hc : Chg (fun g => g = gp) w (w.setCell ⟨gp, 4, none⟩ (.bool m)) := (Chg.refl _ _).grown (grow_set w gp 4 _) (fun g e => .inl (by cases e; rfl))
  exact (h1.flags hc (rset h1.cells 4 _)).to (hc.mono (fun g e => by rw [e]; exact hT)) hT (fun i g e => .inl (h2 g (.inr (.inl ⟨i, e⟩)))) (fun g e => .inl (h2 g (.inr (.inr e))))
theorem RdAt.setN {w : World} {gp : Nat} {k : Rk} {T : Nat → Prop} (h : RdAt w gp k T) (m : Int) : RtP gp ⟨k.ps, k.most, k.left, k.off, m⟩ T w (w.setCell ⟨gp, 5, none⟩ (.int .i64 m)) := by
  obtain ⟨B, blk, vF, vD, xs, dv, sv, tv, h1, h2⟩ := h
  have hT : T gp := h2 gp (.inl rfl)
  have hc : Chg (fun g => g = gp) w (w.setCell ⟨gp, 5, none⟩ (.int .i64 m)) := (Chg.refl _ _).grown (grow_set w gp 5 _) (fun g e => .inl (by cases e; rfl))
  exact (h1.flags hc (rset h1.cells 5 _)).to (hc.mono (fun g e => by rw [e]; exact hT)) hT (fun i g e => .inl (h2 g (.inr (.inl ⟨i, e⟩)))) (fun g e => .inl (h2 g (.inr (.inr e))))
def Rk.quotas (k : Rk) (q : Int) : Rk := ⟨k.ps, q, k.left, k.off, k.done⟩
def Rk.fuses (k : Rk) (n : Int) : Rk := if k.off then k else ⟨k.ps, k.most, if n < 0 then -1 else n, k.off, k.done⟩
def Rk.can (k : Rk) : Bool := !(k.left == 0)
def Rk.spent (k : Rk) : Rk := if k.left = 0 then ⟨k.ps, k.most, k.left, true, k.done⟩ else ⟨k.ps, k.most, if 0 < k.left then k.left - 1 else k.left, k.off, k.done + 1⟩
theorem rquotaOf {w : World} {gp : Nat} {k : Rk} {T : Nat → Prop} (h : RdAt w gp k T) : Calls Tryz.prog 22 #[.pointer (some ⟨gp, 0, none⟩)] w fun e w' => e = .returned (.int .i64 k.most) ∧ w' = w := by
  have c := h.fl.1
  clear h
  go_enter Tryz.func22, Tryz.ntmps22
  go_wp2
  go_ret
  exact ⟨rfl, rfl⟩
theorem rdeadOf {w : World} {gp : Nat} {k : Rk} {T : Nat → Prop} (h : RdAt w gp k T) : Calls Tryz.prog 27 #[.pointer (some ⟨gp, 0, none⟩)] w fun e w' => e = .returned (.bool k.off) ∧ w' = w := by
  have c := h.fl.2.2.1
  clear h
  go_enter Tryz.func27, Tryz.ntmps27
  go_wp2
  go_ret
  exact ⟨rfl, rfl⟩
theorem ropsOf {w : World} {gp : Nat} {k : Rk} {T : Nat → Prop} (h : RdAt w gp k T) : Calls Tryz.prog 29 #[.pointer (some ⟨gp, 0, none⟩)] w fun e w' => e = .returned (.int .i64 k.done) ∧ w' = w := by
  have c := h.fl.2.2.2.1
  clear h
  go_enter Tryz.func29, Tryz.ntmps29
  go_wp2
  go_ret
  exact ⟨rfl, rfl⟩
def RqP (gp : Nat) (k : Rk) (q : Int) (T : Nat → Prop) (w : World) (e : Ending) (w' : World) : Prop := (qB q = true ∧ e = .returned (.int .i64 0) ∧ RtP gp (k.quotas q) T w w') ∨ (qB q = false ∧ e = .returned (.int .i64 3) ∧ w' = w)
set_option maxRecDepth 100000 in
theorem rsetqOf {w : World} {gp : Nat} {k : Rk} {T : Nat → Prop} (h : RdAt w gp k T) (q : Int) (hq : I64 q) : Calls Tryz.prog 17 #[.pointer (some ⟨gp, 0, none⟩), .int .i64 q] w (RqP gp k q T w) := by
  obtain ⟨hq1, hq2⟩ := hq
  have HM := Hid.mkR (h.setM q)
  obtain ⟨c, -, -, -, f, -⟩ := h.fl
  clear h
  by_cases h0 : q < 0
  · have HB : Hid (qB q = false) := by unfold Hid qB; simp; omega
    go_enter Tryz.func17, Tryz.ntmps17
    go_wp2
    go_ret
    exact Or.inr ⟨HB.out, rfl, rfl⟩
  by_cases h1 : q > 1073741824
  · have HB : Hid (qB q = false) := by unfold Hid qB; simp; omega
    go_enter Tryz.func17, Tryz.ntmps17
    go_wp2
    go_ret
    exact Or.inr ⟨HB.out, rfl, rfl⟩
  have HB : Hid (qB q = true) := by unfold Hid qB; simp; omega
  go_enter Tryz.func17, Tryz.ntmps17
  go_wp2
  go_ret
  exact Or.inl ⟨HB.out, rfl, HM.out⟩
set_option maxRecDepth 100000 in
theorem rfuseOf {w : World} {gp : Nat} {k : Rk} {T : Nat → Prop} (h : RdAt w gp k T) (n : Int) (hq : I64 n) : Calls Tryz.prog 19 #[.pointer (some ⟨gp, 0, none⟩), .int .i64 n] w fun e w' => e = .returned (.tuple #[]) ∧ RtP gp (k.fuses n) T w w' := by
  obtain ⟨hq1, hq2⟩ := hq
  have HH := Hid.mkR h
  have HM := Hid.mkR (h.setL n)
  have HM2 : Hid (RtP gp ⟨k.ps, k.most, -1, k.off, k.done⟩ T w ((w.setCell ⟨gp, 3, none⟩ (.int .i64 n)).setCell ⟨gp, 3, none⟩ (.int .i64 (-1)))) := (h.setL n).trans ((h.setL n).1.setL (-1))
  obtain ⟨-, c3, c4, -, -, f3, f4, -⟩ := h.fl
  have d3 := HM.out.1.fl.2.2.2.2.2.1
  have d4 := HM.out.1.fl.2.1
  clear h
  cases hb : k.off with
  | true =>
    have HE : Hid (k.fuses n = k) := by unfold Hid Rk.fuses; rw [hb]; rfl
    rw [HE.out]
    rw [hb] at c4
    clear hb
    go_enter Tryz.func19, Tryz.ntmps19
    go_wp2
    (try simp only [Exit.inBlock, Exit.then])
    refine bodyPost_ret (results_none rfl _ _ _) rfl ?_
    exact ⟨rfl, RtP.start HH.out⟩
  | false =>
    rw [hb] at c4
    by_cases hn : n < 0
    · have HE : Hid (k.fuses n = ⟨k.ps, k.most, -1, k.off, k.done⟩) := by unfold Hid Rk.fuses; rw [hb, if_pos hn]; rfl
      rw [HE.out]
      clear hb
      go_enter Tryz.func19, Tryz.ntmps19
      go_wp2
      go_end0
      exact ⟨rfl, HM2.out⟩
    · have HE : Hid (k.fuses n = ⟨k.ps, k.most, n, k.off, k.done⟩) := by unfold Hid Rk.fuses; rw [hb, if_neg hn]; rfl
      rw [HE.out]
      clear hb
      go_enter Tryz.func19, Tryz.ntmps19
      go_wp2
      go_end0
      exact ⟨rfl, HM.out⟩
set_option maxRecDepth 100000 in
theorem rburnsOf {w : World} {gp : Nat} {k : Rk} {T : Nat → Prop} (h : RdAt w gp k T) (hl : I64 k.left) (hd0 : 0 ≤ k.done) (hd : k.done ≤ 4611686018427387904) : Calls Tryz.prog 50 #[.pointer (some ⟨gp, 0, none⟩)] w fun e w' => e = .returned (.bool (!k.can)) ∧ RtP gp k.spent T w w' := by
  obtain ⟨hl1, hl2⟩ := hl
  obtain ⟨-, c3, c4, c5, -, f3, f4, f5⟩ := h.fl
  by_cases h0 : k.left = 0
  · have HM := Hid.mkR (h.setO true)
    have HE : Hid (k.can = false ∧ k.spent = ⟨k.ps, k.most, k.left, true, k.done⟩) := by unfold Hid Rk.can Rk.spent; rw [if_pos h0, h0]; exact ⟨rfl, rfl⟩
    have q0 : (k.left == 0) = true := by rw [h0]; rfl
    rw [HE.out.1, HE.out.2]
    clear h h0
    go_enter Tryz.func50, Tryz.ntmps50
    go_wp2
    go_ret
    exact ⟨rfl, HM.out⟩
  have q0 : (k.left == 0) = false := beq_eq_false_iff_ne.mpr h0
  have hcan : k.can = true := by unfold Rk.can; rw [q0]; rfl
  rw [hcan]
  by_cases h1 : 0 < k.left
  · have HM := Hid.mkR (h.setL (k.left - 1))
    have d5 := HM.out.1.fl.2.2.2.1
    have g5 := HM.out.1.fl.2.2.2.2.2.2.2
    have HM2 : Hid (RtP gp ⟨k.ps, k.most, k.left - 1, k.off, k.done + 1⟩ T w ((w.setCell ⟨gp, 3, none⟩ (.int .i64 (k.left - 1))).setCell ⟨gp, 5, none⟩ (.int .i64 (k.done + 1)))) := HM.out.trans (HM.out.1.setN (k.done + 1))
    have HE : Hid (k.spent = ⟨k.ps, k.most, k.left - 1, k.off, k.done + 1⟩) := by unfold Hid Rk.spent; rw [if_neg h0, if_pos h1]
    rw [HE.out]
    clear h h0 hcan
    go_enter Tryz.func50, Tryz.ntmps50
    go_wp2
    go_ret
    exact ⟨rfl, HM2.out⟩
  · have HM := Hid.mkR (h.setN (k.done + 1))
    have HE : Hid (k.spent = ⟨k.ps, k.most, k.left, k.off, k.done + 1⟩) := by unfold Hid Rk.spent; rw [if_neg h0, if_neg h1]
    rw [HE.out]
    clear h h0 hcan
    go_enter Tryz.func50, Tryz.ntmps50
    go_wp2
    go_ret
    exact ⟨rfl, HM.out⟩
end Go.Proofs.YthcnhjmkcekdaaaGreat
