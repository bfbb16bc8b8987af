import Derived.Test.YtlnppgjppfkocaaGreatDoorGq04
import Derived.Lib.QuietBelow
import Derived.BigRegion
import Derived.Deep.DeepCutAuto
/-! Lines: rows of texts and of records that are read; the document's Show. -/
namespace Go.Proofs.YtlnppgjppfkocaaGreatDoor.Xs
open Go.RowKit
set_option linter.unusedVariables false
set_option linter.unusedSimpArgs false

theorem cell_lt {w : World} {a : Addr} {v : Value} (h : w.cell? a = some v) : a.block < w.heap.size := block_lt_of_cell h
/-- v is a slice of texts that reads as l. -/
def NmsAt (w : World) (v : Value) (l : List By) : Prop :=
  ∃ a cap, v = .slice a l.length cap ∧ l.length ≤ cap ∧ l.length ≤ 8796093022000 ∧ (∀ x ∈ l, x.length ≤ 1125899906842624) ∧
    (l ≠ [] → ∃ b off, a = some ⟨b, off, none⟩ ∧ ∀ j, j < l.length → w.cell? ⟨b, off + j, none⟩ = some (.string (ba (l.getD j []))))
theorem NmsAt.later {w w' : World} {v : Value} {l : List By} (h : NmsAt w v l) (hb : Below w.heap.size w w') : NmsAt w' v l := by
  obtain ⟨a, cap, e, h0, h1, h2, h3⟩ := h
  refine ⟨a, cap, e, h0, h1, h2, fun hne => ?_⟩
  obtain ⟨b, off, e2, hc⟩ := h3 hne
  exact ⟨b, off, e2, fun j hj => (hb.cell (p := ⟨b, off + j, none⟩) (cell_lt (hc j hj))).trans (hc j hj)⟩
def Sr.none : Sr := ⟨0, 0, 0, 0, 0, [], []⟩
structure Sr.Ok (x : Sr) : Prop where
  kind : I64 x.kind
  offset : I64 x.offset
  time : I64 x.time
  pid : I64 x.pid
  seq : I64 x.seq
  key : x.key.length ≤ 1125899906842624
  value : x.value.length ≤ 1125899906842624
/-- The seven cells of a record. -/
structure SrAt (w : World) (b o : Nat) (x : Sr) : Prop where
  c0 : w.cell? ⟨b, o, none⟩ = some (.int .i64 x.kind)
  c1 : w.cell? ⟨b, o + 1, none⟩ = some (.int .i64 x.offset)
  c2 : w.cell? ⟨b, o + 2, none⟩ = some (.int .i64 x.time)
  c3 : w.cell? ⟨b, o + 3, none⟩ = some (.int .i64 x.pid)
  c4 : w.cell? ⟨b, o + 4, none⟩ = some (.int .i64 x.seq)
  c5 : w.cell? ⟨b, o + 5, none⟩ = some (.string (ba x.key))
  c6 : w.cell? ⟨b, o + 6, none⟩ = some (.string (ba x.value))
theorem SrAt.later {w w' : World} {b o : Nat} {x : Sr} (h : SrAt w b o x) (hb : Below w.heap.size w w') : SrAt w' b o x :=
  ⟨(hb.cell (cell_lt h.c0)).trans h.c0, (hb.cell (cell_lt h.c1)).trans h.c1, (hb.cell (cell_lt h.c2)).trans h.c2, (hb.cell (cell_lt h.c3)).trans h.c3, (hb.cell (cell_lt h.c4)).trans h.c4, (hb.cell (cell_lt h.c5)).trans h.c5, (hb.cell (cell_lt h.c6)).trans h.c6⟩
/-- v is a slice of records that reads as l. -/
def SrsAt (w : World) (v : Value) (l : List Sr) : Prop :=
  ∃ a cap, v = .slice a l.length cap ∧ l.length ≤ cap ∧ l.length ≤ 1954687338000 ∧ (∀ x ∈ l, x.Ok) ∧
    (l ≠ [] → ∃ b off, a = some ⟨b, off, none⟩ ∧ ∀ j, j < l.length → SrAt w b (off + j * 7) (l.getD j Sr.none))
theorem SrsAt.later {w w' : World} {v : Value} {l : List Sr} (h : SrsAt w v l) (hb : Below w.heap.size w w') : SrsAt w' v l := by
  obtain ⟨a, cap, e, h0, h1, h2, h3⟩ := h
  refine ⟨a, cap, e, h0, h1, h2, fun hne => ?_⟩
  obtain ⟨b, off, e2, hc⟩ := h3 hne
  exact ⟨b, off, e2, fun j hj => (hc j hj).later hb⟩
abbrev rpV (r : Rp) (vr vn : Value) : Value := .agg #[.int .u32 r.id, .int .i64 r.op, .int .i64 r.code, .int .i64 r.offset, .int .i64 r.number, .bool r.more, vr, vn]
structure Rp.Ok (r : Rp) : Prop where
  id1 : 0 ≤ r.id
  id2 : r.id ≤ 4294967295
  op : I64 r.op
  code : I64 r.code
  offset : I64 r.offset
  number : I64 r.number

/-! ### The line grows -/
def sp (l : List By) : By := l.flatMap (fun x => 32 :: x)
theorem sp_app (a b : List By) : sp (a ++ b) = sp a ++ sp b := by unfold sp; rw [List.flatMap_append]
theorem join_sp (p : By) (l : List By) : joinL p l = p ++ sp l := rfl
theorem getD_snoc {α : Type} {l : List α} {k : Nat} (d : α) (h : k < l.length) : l.take (k + 1) = l.take k ++ [l.getD k d] := by
  rw [List.take_succ_eq_append_getElem h, List.getD_eq_getElem?_getD, List.getElem?_eq_getElem h]; rfl
theorem names_snoc {l : List By} {k : Nat} (h : k < l.length) : sp ((l.take (k + 1)).flatMap nameT) = sp ((l.take k).flatMap nameT) ++ (32 :: 110 :: 97 :: 109 :: 101 :: 32 :: txt (l.getD k [])) := by
  rw [getD_snoc [] h, List.flatMap_append, sp_app]
  congr 1
  simp [nameT, sp, nameW]
theorem recs_snoc {l : List Sr} {k : Nat} (h : k < l.length) : sp ((l.take (k + 1)).flatMap recT) = sp ((l.take k).flatMap recT) ++ sp (recT (l.getD k Sr.none)) := by
  rw [getD_snoc Sr.none h, List.flatMap_append, sp_app]
  congr 1
theorem kind_len (k : Int) (h : I64 k) : (kindT k).length ≤ 24 := by
  unfold kindT
  split
  · decide
  · split
    · decide
    · rw [List.length_append]
      have := itoa_len h.1 h.2
      have : kindP.length = 4 := rfl
      omega
theorem op_len (k : Int) (h : I64 k) : (opT k).length ≤ 24 := by
  have h1 : ∀ i : Fin 15, (oW.getD i.val []).length ≤ 24 := by decide +kernel
  unfold opT
  split
  case isTrue hh => exact h1 ⟨k.toNat - 1, by omega⟩
  · split
    · decide
    · rw [List.length_append]
      have := itoa_len h.1 h.2
      have : opP.length = 2 := rfl
      omega
theorem code_len (k : Int) (h : I64 k) : (codeT k).length ≤ 24 := by
  have h1 : ∀ i : Fin 12, (cW.getD i.val []).length ≤ 24 := by decide +kernel
  unfold codeT
  split
  case isTrue hh => exact h1 ⟨k.toNat, by omega⟩
  · rw [List.length_append]
    have := itoa_len h.1 h.2
    have : codeP.length = 4 := rfl
    omega

end Go.Proofs.YtlnppgjppfkocaaGreatDoor.Xs

/-! Requests: the document's uses, has, CheckRequest. -/
namespace Go.Proofs.YtlnppgjppfkocaaGreatDoor.Xs
open Go.RowKit
set_option linter.unusedVariables false
set_option linter.unusedSimpArgs false

/-- What an operation uses; "?" of none. -/
def useL (op : Int) : By := if 1 ≤ op ∧ op ≤ 15 then fldL op else [63]

set_option maxHeartbeats 8000000 in
set_option maxRecDepth 100000 in
theorem vusesOf (op : Int) (w : World) :
    Calls Tryz.prog 81 #[.int .i64 op] w fun e w' => e = .returned (.string (ba (useL op))) ∧ w' = w := by
  by_cases h : 1 ≤ op ∧ op ≤ 15
  · have hcases : op = 1 ∨ op = 2 ∨ op = 3 ∨ op = 4 ∨ op = 5 ∨ op = 6 ∨ op = 7 ∨ op = 8 ∨ op = 9 ∨ op = 10 ∨ op = 11 ∨ op = 12 ∨ op = 13 ∨ op = 14 ∨ op = 15 := by omega
    clear h
    rcases hcases with rfl | rfl | rfl | rfl | rfl | rfl | rfl | rfl | rfl | rfl | rfl | rfl | rfl | rfl | rfl
    all_goals
      go_enter Tryz.func81, Tryz.ntmps81
      go_wp2
      go_ret
      exact ⟨rfl, rfl⟩
  · have HU : Hid (useL op = [63]) := by unfold Hid useL; rw [if_neg h]
    generalize useL op = U at *
    have h1 : (op == 1) = false := by simp; omega
    have h2 : (op == 2) = false := by simp; omega
    have h3 : (op == 3) = false := by simp; omega
    have h4 : (op == 4) = false := by simp; omega
    have h5 : (op == 5) = false := by simp; omega
    have h6 : (op == 6) = false := by simp; omega
    have h7 : (op == 7) = false := by simp; omega
    have h8 : (op == 8) = false := by simp; omega
    have h9 : (op == 9) = false := by simp; omega
    have h10 : (op == 10) = false := by simp; omega
    have h11 : (op == 11) = false := by simp; omega
    have h12 : (op == 12) = false := by simp; omega
    have h13 : (op == 13) = false := by simp; omega
    have h14 : (op == 14) = false := by simp; omega
    have h15 : (op == 15) = false := by simp; omega
    clear h
    go_enter Tryz.func81, Tryz.ntmps81
    go_wp2
    go_ret
    exact ⟨by rw [HU.out]; rfl, rfl⟩

set_option maxHeartbeats 4000000 in
set_option maxRecDepth 100000 in
theorem vhasOf (s : By) (hs : s.length ≤ 1000) (c : UInt8) (w : World) :
    Calls Tryz.prog 82 #[.string (ba s), .int .u8 (c.toNat : Int)] w fun e w' => e = .returned (.bool (s.contains c)) ∧ w' = w := by
  have hsz : (ba s).size = s.length := rfl
  have HBAD : Hid (∀ k, k < s.length → s.getD k 0 = c → s.contains c = true) := fun k hk e => by
    rw [List.contains_iff_mem, ← e, List.getD_eq_getElem?_getD, List.getElem?_eq_getElem hk]
    exact List.getElem_mem hk
  have HGOOD : Hid ((∀ j, j < s.length → s.getD j 0 ≠ c) → s.contains c = false) := fun h => by
    rw [← Bool.not_eq_true, List.contains_iff_mem]
    intro hm
    obtain ⟨j, hj, e⟩ := List.mem_iff_getElem.1 hm
    exact h j hj (by rw [List.getD_eq_getElem?_getD, List.getElem?_eq_getElem hj]; exact e)
  generalize s.contains c = R at *
  go_enter Tryz.func82, Tryz.ntmps82
  go_wp2
  go_loopw [5] (fun i wr => ∃ k : Nat, k ≤ s.length ∧ i = .int .i64 k ∧ Hid (∀ j, j < k → s.getD j 0 ≠ c) ∧ w = wr) (fun i _ => s.length - (intOf i).toNat)
  case atStart => exact ⟨0, Nat.zero_le _, rfl, fun j hj => absurd hj (Nat.not_lt_zero _), rfl⟩
  case round =>
    obtain ⟨k, hk, rfl, HK, rfl⟩ := hrel
    by_cases hp : k < s.length
    · have hki : (k : Int) < (s.length : Int) := by omega
      have hkb : k < (ba s).size := hp
      have hbg := ba_get hkb
      have HBk : Hid (s.getD k 0 = c → R = true) := HBAD.out k hp
      obtain ⟨d, hd⟩ : ∃ d, s.getD k 0 = d := ⟨_, rfl⟩
      rw [hd] at hbg
      have HD : Hid (s.getD k 0 = d) := hd
      clear hd
      have hz : (((ba s)[k]'hkb).toNat : Int) = (d.toNat : Int) := by rw [hbg]
      clear hbg
      by_cases hc : d = c
      · have HR : Hid (R = true) := HBk.out (HD.out.trans hc)
        have hdc : (((d.toNat : Int)) == ((c.toNat : Int))) = true := by rw [hc]; simp
        clear hc HGOOD HBAD HBk
        go_wp2
        go_ret
        exact ⟨by rw [HR.out]; rfl, rfl⟩
      · have hdc : (((d.toNat : Int)) == ((c.toNat : Int))) = false := by
          rw [beq_eq_false_iff_ne]
          exact fun e => hc (UInt8.toNat_inj.1 (by omega))
        have HK1 : Hid (∀ j, j < k + 1 → s.getD j 0 ≠ c) := fun j hj => by
          by_cases e : j = k
          · rw [e, HD.out]; exact hc
          · exact HK.out j (by omega)
        clear hc HBk
        go_wp2
        go_roundw
        case rel => exact ⟨k + 1, by omega, by go_num, HK1, by first | rfl | trivial⟩
        case measure => simp [intOf]; omega
    · have hki : ¬ (k : Int) < (s.length : Int) := by omega
      have HR : Hid (R = false) := HGOOD.out (fun j hj => HK.out j (by omega))
      clear HGOOD HBAD
      go_wp2
      go_ret
      exact ⟨by rw [HR.out]; rfl, rfl⟩
end Go.Proofs.YtlnppgjppfkocaaGreatDoor.Xs
