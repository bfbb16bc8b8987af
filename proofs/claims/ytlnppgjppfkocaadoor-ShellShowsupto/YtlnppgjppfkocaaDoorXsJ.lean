import Derived.Test.YtlnppgjppfkocaaDoorXsI
import Derived.Lib.QuietBelow
import Derived.BigRegion
/-! Lines: rows of texts and of records that are read; the document's Show. -/
namespace Go.Proofs.YtlnppgjppfkocaaDoor.Xs
open Go.RowKit
set_option linter.unusedVariables false
set_option linter.unusedSimpArgs false

theorem cell_lt {w : World} {a : Addr} {v : Value} (h : w.cell? a = some v) : a.block < w.heap.size := block_lt_of_cell h
/-- v is a slice of texts that reads as l. -/
def NmsAt (w : World) (v : Value) (l : List By) : Prop :=
  ∃ a cap, v = .slice a l.length cap ∧ l.length ≤ cap ∧ l.length ≤ 8796093022000 ∧ (∀ x ∈ l, x.length ≤ 1125899906842624) ∧
    (l ≠ [] → ∃ b off, a = some ⟨b, off, none⟩ ∧ ∀ j, j < l.length → w.cell? ⟨b, off + j, none⟩ = some (.string (ba (l.getD j []))))
theorem NmsAt.later {w w' : World} {v : Value} {l : List By} (h : NmsAt w v l) (hb : Below w.heap.size w w') : NmsAt w' v l := by
  obtain ⟨a, cap, e, h0, h1, h2, h3⟩ := h
  refine ⟨a, cap, e, h0, h1, h2, fun hne => ?_⟩
  obtain ⟨b, off, e2, hc⟩ := h3 hne
  exact ⟨b, off, e2, fun j hj => (hb.cell (p := ⟨b, off + j, none⟩) (cell_lt (hc j hj))).trans (hc j hj)⟩
def Sr.none : Sr := ⟨0, 0, 0, 0, 0, [], []⟩
structure Sr.Ok (x : Sr) : Prop where
  kind : I64 x.kind
  offset : I64 x.offset
  time : I64 x.time
  pid : I64 x.pid
  seq : I64 x.seq
  key : x.key.length ≤ 1125899906842624
  value : x.value.length ≤ 1125899906842624
/-- The seven cells of a record. -/
structure SrAt (w : World) (b o : Nat) (x : Sr) : Prop where
  c0 : w.cell? ⟨b, o, none⟩ = some (.int .i64 x.kind)
  c1 : w.cell? ⟨b, o + 1, none⟩ = some (.int .i64 x.offset)
  c2 : w.cell? ⟨b, o + 2, none⟩ = some (.int .i64 x.time)
  c3 : w.cell? ⟨b, o + 3, none⟩ = some (.int .i64 x.pid)
  c4 : w.cell? ⟨b, o + 4, none⟩ = some (.int .i64 x.seq)
  c5 : w.cell? ⟨b, o + 5, none⟩ = some (.string (ba x.key))
  c6 : w.cell? ⟨b, o + 6, none⟩ = some (.string (ba x.value))
theorem SrAt.later {w w' : World} {b o : Nat} {x : Sr} (h : SrAt w b o x) (hb : Below w.heap.size w w') : SrAt w' b o x :=
  ⟨(hb.cell (cell_lt h.c0)).trans h.c0, (hb.cell (cell_lt h.c1)).trans h.c1, (hb.cell (cell_lt h.c2)).trans h.c2, (hb.cell (cell_lt h.c3)).trans h.c3, (hb.cell (cell_lt h.c4)).trans h.c4, (hb.cell (cell_lt h.c5)).trans h.c5, (hb.cell (cell_lt h.c6)).trans h.c6⟩
/-- v is a slice of records that reads as l. -/
def SrsAt (w : World) (v : Value) (l : List Sr) : Prop :=
  ∃ a cap, v = .slice a l.length cap ∧ l.length ≤ cap ∧ l.length ≤ 1954687338000 ∧ (∀ x ∈ l, x.Ok) ∧
    (l ≠ [] → ∃ b off, a = some ⟨b, off, none⟩ ∧ ∀ j, j < l.length → SrAt w b (off + j * 7) (l.getD j Sr.none))
theorem SrsAt.later {w w' : World} {v : Value} {l : List Sr} (h : SrsAt w v l) (hb : Below w.heap.size w w') : SrsAt w' v l := by
  obtain ⟨a, cap, e, h0, h1, h2, h3⟩ := h
  refine ⟨a, cap, e, h0, h1, h2, fun hne => ?_⟩
  obtain ⟨b, off, e2, hc⟩ := h3 hne
  exact ⟨b, off, e2, fun j hj => (hc j hj).later hb⟩
abbrev rpV (r : Rp) (vr vn : Value) : Value := .agg #[.int .u32 r.id, .int .i64 r.op, .int .i64 r.code, .int .i64 r.offset, .int .i64 r.number, .bool r.more, vr, vn]
structure Rp.Ok (r : Rp) : Prop where
  id1 : 0 ≤ r.id
  id2 : r.id ≤ 4294967295
  op : I64 r.op
  code : I64 r.code
  offset : I64 r.offset
  number : I64 r.number

/-! ### The line grows -/
def sp (l : List By) : By := l.flatMap (fun x => 32 :: x)
theorem sp_app (a b : List By) : sp (a ++ b) = sp a ++ sp b := by unfold sp; rw [List.flatMap_append]
theorem join_sp (p : By) (l : List By) : joinL p l = p ++ sp l := rfl
theorem getD_snoc {α : Type} {l : List α} {k : Nat} (d : α) (h : k < l.length) : l.take (k + 1) = l.take k ++ [l.getD k d] := by
  rw [List.take_succ_eq_append_getElem h, List.getD_eq_getElem?_getD, List.getElem?_eq_getElem h]; rfl
theorem names_snoc {l : List By} {k : Nat} (h : k < l.length) : sp ((l.take (k + 1)).flatMap nameT) = sp ((l.take k).flatMap nameT) ++ (32 :: 110 :: 97 :: 109 :: 101 :: 32 :: txt (l.getD k [])) := by
  rw [getD_snoc [] h, List.flatMap_append, sp_app]
  congr 1
  simp [nameT, sp, nameW]
theorem recs_snoc {l : List Sr} {k : Nat} (h : k < l.length) : sp ((l.take (k + 1)).flatMap recT) = sp ((l.take k).flatMap recT) ++ sp (recT (l.getD k Sr.none)) := by
  rw [getD_snoc Sr.none h, List.flatMap_append, sp_app]
  congr 1
theorem kind_len (k : Int) (h : I64 k) : (kindT k).length ≤ 24 := by
  unfold kindT
  split
  · decide
  · split
    · decide
    · rw [List.length_append]
      have := itoa_len h.1 h.2
      have : kindP.length = 4 := rfl
      omega
theorem op_len (k : Int) (h : I64 k) : (opT k).length ≤ 24 := by
  have h1 : ∀ i : Fin 15, (oW.getD i.val []).length ≤ 24 := by decide +kernel
  unfold opT
  split
  case isTrue hh => exact h1 ⟨k.toNat - 1, by omega⟩
  · split
    · decide
    · rw [List.length_append]
      have := itoa_len h.1 h.2
      have : opP.length = 2 := rfl
      omega
theorem code_len (k : Int) (h : I64 k) : (codeT k).length ≤ 24 := by
  have h1 : ∀ i : Fin 12, (cW.getD i.val []).length ≤ 24 := by decide +kernel
  unfold codeT
  split
  case isTrue hh => exact h1 ⟨k.toNat, by omega⟩
  · rw [List.length_append]
    have := itoa_len h.1 h.2
    have : codeP.length = 4 := rfl
    omega

set_option maxHeartbeats 8000000 in
set_option maxRecDepth 100000 in
theorem rshowOf (r : Rp) (vr vn : Value) (w : World) (hr : SrsAt w vr r.recs) (hn : NmsAt w vn r.names) (ok : r.Ok) (hlen : (showL r).length ≤ 1000000000000000000) :
    Calls Tryd.prog 5 #[rpV r vr vn] w fun e w' => e = .returned (.string (ba (showL r))) ∧ Below w.heap.size w w' := by
  obtain ⟨id, op, code, fo, nu, mo, recs, names⟩ := r
  obtain ⟨i1, i2, o1, o2, o3, o4⟩ := ok
  simp only at hr hn i1 i2 o1 o2 o3 o4
  obtain ⟨W1, hW1⟩ : ∃ W1, w.alloc (.cells #[.int .u32 id, .int .i64 op, .int .i64 code, .int .i64 fo, .int .i64 nu, .bool mo, vr, vn] 26) = W1 := ⟨_, rfl⟩
  have HB1 : Hid (Below w.heap.size w W1) := by
    unfold Hid
    rw [← hW1]
    exact (Below.refl _ _).alloc (Nat.le_refl _) _
  have hbx : ∀ k v, (#[.int .u32 id, .int .i64 op, .int .i64 code, .int .i64 fo, .int .i64 nu, .bool mo, vr, vn] : Array Value)[k]? = some v → W1.cell? ⟨w.heap.size, k, none⟩ = some v := fun k v e => by
    rw [← hW1, World.cell?_alloc_at _ _ _ _ rfl]; exact e
  have z0 : W1.cell? ⟨w.heap.size, 0, none⟩ = some (.int .u32 id) := hbx 0 _ rfl
  have z1 : W1.cell? ⟨w.heap.size, 1, none⟩ = some (.int .i64 op) := hbx 1 _ rfl
  have z2 : W1.cell? ⟨w.heap.size, 2, none⟩ = some (.int .i64 code) := hbx 2 _ rfl
  have z3 : W1.cell? ⟨w.heap.size, 3, none⟩ = some (.int .i64 fo) := hbx 3 _ rfl
  have z4 : W1.cell? ⟨w.heap.size, 4, none⟩ = some (.int .i64 nu) := hbx 4 _ rfl
  have z5 : W1.cell? ⟨w.heap.size, 5, none⟩ = some (.bool mo) := hbx 5 _ rfl
  have z6 : W1.cell? ⟨w.heap.size, 6, none⟩ = some vr := hbx 6 _ rfl
  have z7 : W1.cell? ⟨w.heap.size, 7, none⟩ = some vn := hbx 7 _ rfl
  clear hbx
  have HCL : Hid (∀ u, Below W1.heap.size W1 u → u.cell? ⟨w.heap.size, 5, none⟩ = some (.bool mo) ∧ u.cell? ⟨w.heap.size, 6, none⟩ = some vr ∧ u.cell? ⟨w.heap.size, 7, none⟩ = some vn) := fun u hu =>
    ⟨(hu.cell (cell_lt z5)).trans z5, (hu.cell (cell_lt z6)).trans z6, (hu.cell (cell_lt z7)).trans z7⟩
  have HR1 : Hid (SrsAt W1 vr recs) := hr.later HB1.out
  have HN1 : Hid (NmsAt W1 vn names) := hn.later HB1.out
  have HLE : Hid ((showL ⟨id, op, code, fo, nu, mo, recs, names⟩).length ≤ 1000000000000000000) := hlen
  clear hr hn hlen
  have r0 := cell_regrown z0
  have r1 := cell_regrown z1
  have r2 := cell_regrown z2
  have r3 := cell_regrown z3
  have r4 := cell_regrown z4
  have cI : ∀ n, I64 n → ∀ d os, Calls Tryd.prog 15 #[.int .i64 n] (Go.Sort.grow (redrawn W1 d) os) fun e w'' => e = .returned (.string (ba (Lib.itoa n))) ∧ ∃ p : Regrown, w'' = Go.Sort.grow (redrawn W1 p.d) p.os := fun n hn d os => Calls.regrown_of (rnumberOf n hn.1 hn.2 _)
  have k0 := cI id ⟨by omega, by omega⟩
  have k1 : ∀ d os, Calls Tryd.prog 16 #[.int .i64 op] (Go.Sort.grow (redrawn W1 d) os) fun e w'' => e = .returned (.string (ba (opT op))) ∧ ∃ p : Regrown, w'' = Go.Sort.grow (redrawn W1 p.d) p.os := fun d os => Calls.regrown_of (ropWordOf op o1.1 o1.2 _)
  have k2 : ∀ d os, Calls Tryd.prog 17 #[.int .i64 code] (Go.Sort.grow (redrawn W1 d) os) fun e w'' => e = .returned (.string (ba (codeT code))) ∧ ∃ p : Regrown, w'' = Go.Sort.grow (redrawn W1 p.d) p.os := fun d os => Calls.regrown_of (rcodeWordOf code o2.1 o2.2 _)
  have k3 := cI fo o3
  have k4 := cI nu o4
  have l0 := itoa_len (n := id) (by omega) (by omega)
  have l1 := op_len op o1
  have l2 := code_len code o2
  have l3 := itoa_len o3.1 o3.2
  have l4 := itoa_len o4.1 o4.2
  clear cI o1 o2 o3 o4
  have HSH : Hid (showL ⟨id, op, code, fo, nu, mo, recs, names⟩ = (joinL (Lib.itoa id) [opT op, codeT code, Lib.itoa fo, Lib.itoa nu] ++ (32 :: if mo = true then moreW else lastW)) ++ (sp (names.flatMap nameT) ++ sp (recs.flatMap recT))) := by
    unfold Hid showL showT restT
    rw [join_sp, join_sp, sp_app, sp_app]
    simp [sp]
  generalize showL ⟨id, op, code, fo, nu, mo, recs, names⟩ = SH at *
  have HL0 : Hid (joinL (Lib.itoa id) [opT op, codeT code, Lib.itoa fo, Lib.itoa nu] = Lib.itoa id ++ 32 :: (opT op ++ 32 :: (codeT code ++ 32 :: (Lib.itoa fo ++ 32 :: Lib.itoa nu)))) := by
    unfold Hid joinL; simp
  generalize joinL (Lib.itoa id) [opT op, codeT code, Lib.itoa fo, Lib.itoa nu] = L0 at *
  generalize Lib.itoa id = t0 at *
  generalize opT op = t1 at *
  generalize codeT code = t2 at *
  generalize Lib.itoa fo = t3 at *
  generalize Lib.itoa nu = t4 at *
  have s0 : (ba t0).size = t0.length := rfl
  have s1 : (ba t1).size = t1.length := rfl
  have s2 : (ba t2).size = t2.length := rfl
  have s3 : (ba t3).size = t3.length := rfl
  have s4 : (ba t4).size = t4.length := rfl
  have hw0 : IntKind.i64.wrap id = id := by rw [IntKind.wrap_i64]; omega
  go_enter Tryd.func5, Tryd.ntmps5
  go_wp2_with fail
  clear z0 z1 z2 z3 z4
  refine wp_region_quiet_below (by kernel_rfl) (by kernel_rfl) ?_
  repeat (go_big_quiet_step (first | with_reducible exact k0 _ _ | with_reducible exact k1 _ _ | with_reducible exact k2 _ _ | with_reducible exact k3 _ _ | with_reducible exact k4 _ _))
  refine wpQuiet_nil ?_
  intro _ hw'
  obtain ⟨⟨dq, osq⟩, hw''⟩ := hw'
  subst hw''
  obtain ⟨w6, hw6⟩ : ∃ u, Go.Sort.grow (redrawn W1 dq) osq = u := ⟨_, rfl⟩
  have HB6 : Hid (Below W1.heap.size W1 w6) := by unfold Hid; rw [← hw6]; exact below_regrown W1 dq osq
  rw [hw6]
  clear k0 k1 k2 k3 k4 r0 r1 r2 r3 r4 hw6 z5 z6 z7
  have eL : ba t0 ++ (⟨#[32]⟩ : ByteArray) ++ ba t1 ++ ⟨#[32]⟩ ++ ba t2 ++ ⟨#[32]⟩ ++ ba t3 ++ ⟨#[32]⟩ ++ ba t4 = ba L0 := by
    rw [HL0.out]
    apply ByteArray.ext
    simp
  rw [eL]
  generalize ba t0 ++ (⟨#[32]⟩ : ByteArray) = y1 at *
  generalize y1 ++ ba t1 = y2 at *
  generalize y2 ++ (⟨#[32]⟩ : ByteArray) = y3 at *
  generalize y3 ++ ba t2 = y4 at *
  generalize y4 ++ (⟨#[32]⟩ : ByteArray) = y5 at *
  generalize y5 ++ ba t3 = y6 at *
  generalize y6 ++ (⟨#[32]⟩ : ByteArray) = y7 at *
  have hL0 : L0.length ≤ 1000 := by
    rw [HL0.out]; simp only [List.length_append, List.length_cons]; omega
  have hL0s : (ba L0).size = L0.length := rfl
  clear eL HL0 s0 s1 s2 s3 s4 l0 l1 l2 l3 l4
  obtain ⟨v5, v6, v7⟩ := HCL.out w6 HB6.out
  obtain ⟨L1, hL1⟩ : ∃ L1 : By, L1 = L0 ++ (32 :: if mo = true then moreW else lastW) := ⟨_, rfl⟩
  rw [← hL1] at HSH
  have hL1l : L1.length ≤ 1010 := by
    rw [hL1]
    cases mo
    · simp [lastW]; omega
    · simp [moreW]; omega
  have HSN : Hid (∀ k, (L1 ++ sp ((names.take k).flatMap nameT)).length ≤ 1000000000000000000) := fun k => by
    have := HLE.out
    rw [HSH.out] at this
    have e : names.flatMap nameT = (names.take k).flatMap nameT ++ (names.drop k).flatMap nameT := by rw [← List.flatMap_append, List.take_append_drop]
    rw [e, sp_app] at this
    simp only [List.length_append] at this ⊢
    omega
  have HSR : Hid (∀ k, (L1 ++ sp (names.flatMap nameT) ++ sp ((recs.take k).flatMap recT)).length ≤ 1000000000000000000) := fun k => by
    have := HLE.out
    rw [HSH.out] at this
    have e : recs.flatMap recT = (recs.take k).flatMap recT ++ (recs.drop k).flatMap recT := by rw [← List.flatMap_append, List.take_append_drop]
    rw [e, sp_app] at this
    simp only [List.length_append] at this ⊢
    omega
  have HL1 : Hid (ba L1 = ba L0 ++ ⟨(32 :: if mo = true then moreW else lastW).toArray⟩) := by
    unfold Hid
    rw [hL1, ba_app]
  have hL1s : (ba L1).size = L1.length := rfl
  clear hL1
  cases mo with
  | false =>
    have eB : ba L0 ++ (⟨#[32, 108, 97, 115, 116]⟩ : ByteArray) = ba L1 := HL1.out.symm
    go_wp2
    clear eB HL1 v5 v6 v7 hL0 hL0s
    go_loopw [3, 4] (fun o i wl => ∃ (k : Nat) (L : By), k ≤ names.length ∧ i = .int .i64 k ∧ o = .string (ba L) ∧ Hid (L = L1 ++ sp ((names.take k).flatMap nameT)) ∧ Hid (Below W1.heap.size W1 wl)) (fun _ i _ => names.length - (intOf i).toNat)
    case atStart => exact ⟨0, L1, Nat.zero_le _, rfl, rfl, by unfold Hid; simp [sp], HB6⟩
    case round =>
      obtain ⟨k, L, hk, rfl, rfl, HL, HW⟩ := hrel
      have hLl : L.length ≤ 1000000000000000000 := by rw [HL.out]; exact HSN.out k
      have hLs : (ba L).size = L.length := rfl
      obtain ⟨v5, v6, v7⟩ := HCL.out _ HW.out
      obtain ⟨an, cn, rfl, q1, q2, q3, q4⟩ := HN1.out.later HW.out
      by_cases hp : k < names.length
      · have hki : (k : Int) < (names.length : Int) := by omega
        have HSNk := HSN.out (k + 1)
        rw [names_snoc hp, ← List.append_assoc, ← HL.out] at HSNk
        have HE : Hid (L1 ++ sp ((names.take (k + 1)).flatMap nameT) = L ++ (32 :: 110 :: 97 :: 109 :: 101 :: 32 :: txt (names.getD k []))) := by
          unfold Hid; rw [names_snoc hp, ← List.append_assoc, ← HL.out]
        obtain ⟨bn, on, rfl, hcn⟩ := q4 (fun e => by rw [e] at hp; simp at hp)
        have c0 := hcn k hp
        have hxl : (names.getD k []).length ≤ 1125899906842624 := q3 _ (by rw [List.getD_eq_getElem?_getD, List.getElem?_eq_getElem hp]; exact List.getElem_mem hp)
        generalize names.getD k [] = x at *
        have HC : Hid (∀ u, Calls Tryd.prog 18 #[.string (ba x)] u fun e w' => e = .returned (.string (ba (txt x))) ∧ Below u.heap.size u w') := rtextOf x hxl
        have htl := txt_len x
        generalize txt x = tx at *
        have hts : (ba tx).size = tx.length := rfl
        clear HSNk hcn q4
        go_wp2_with fail
        refine (HC.out _).mono ?_
        rintro e w1 ⟨rfl, hb⟩
        have HW1 : Hid (Below W1.heap.size W1 w1) := below_on HW.out hb
        clear v5 v6 v7 c0
        go_wp2
        go_roundw
        case rel => exact ⟨k + 1, L ++ (32 :: 110 :: 97 :: 109 :: 101 :: 32 :: tx), by omega, by go_num, by (try simp only [ba]); exact str_eq (by simp), HE.out.symm, HW1⟩
        case measure => simp [intOf]; omega
      · have hki : ¬ (k : Int) < (names.length : Int) := by omega
        have HL2 : Hid (L = L1 ++ sp (names.flatMap nameT)) := by
          unfold Hid
          rw [HL.out, show k = names.length by omega, List.take_length]
        clear HL v5 v6 v7 q4
        obtain ⟨v5, v6, v7⟩ := HCL.out _ HW.out
        go_wp2
        clear v5 v6 v7 HSN hp hki hk hLl hLs
        have HW6 : Hid (Below W1.heap.size W1 wr) := HW
        clear HW
        go_loopw [3, 5] (fun o i wl => ∃ (k : Nat) (L : By), k ≤ recs.length ∧ i = .int .i64 k ∧ o = .string (ba L) ∧ Hid (L = L1 ++ sp (names.flatMap nameT) ++ sp ((recs.take k).flatMap recT)) ∧ Hid (Below W1.heap.size W1 wl)) (fun _ i _ => recs.length - (intOf i).toNat)
        case atStart => exact ⟨0, L, Nat.zero_le _, rfl, rfl, by unfold Hid; rw [HL2.out]; simp [sp], HW6⟩
        case round =>
          clear HL2
          obtain ⟨k, L, hk, rfl, rfl, HL, HW⟩ := hrel
          have hLl : L.length ≤ 1000000000000000000 := by rw [HL.out]; exact HSR.out k
          have hLs : (ba L).size = L.length := rfl
          obtain ⟨v5, v6, v7⟩ := HCL.out _ HW.out
          obtain ⟨ar, cr, rfl, p1, p2, p3, p4⟩ := HR1.out.later HW.out
          by_cases hp : k < recs.length
          · have hki : (k : Int) < (recs.length : Int) := by omega
            have HE : Hid (L1 ++ sp (names.flatMap nameT) ++ sp ((recs.take (k + 1)).flatMap recT) = L ++ sp (recT (recs.getD k Sr.none))) := by
              unfold Hid; rw [recs_snoc hp, ← List.append_assoc, ← HL.out]
            obtain ⟨br, obr, rfl, hcr⟩ := p4 (fun e => by rw [e] at hp; simp at hp)
            obtain ⟨c0, c1, c2, c3, c4, c5, c6⟩ := hcr k hp
            have hxo : (recs.getD k Sr.none).Ok := p3 _ (by rw [List.getD_eq_getElem?_getD, List.getElem?_eq_getElem hp]; exact List.getElem_mem hp)
            generalize recs.getD k Sr.none = x at *
            obtain ⟨xk, xo, xt, xp, xq, xkey, xval⟩ := x
            obtain ⟨g0, g1, g2, g3, g4, g5, g6⟩ := hxo
            simp only [recT] at c0 c1 c2 c3 c4 c5 c6 g0 g1 g2 g3 g4 g5 g6 HE
            obtain ⟨wB, hwB⟩ : ∃ u, wr.alloc (.cells #[.int .i64 xk, .int .i64 xo, .int .i64 xt, .int .i64 xp, .int .i64 xq, .string (ba xkey), .string (ba xval)] 28) = u := ⟨_, rfl⟩
            have HBB : Hid (Below wr.heap.size wr wB) := by unfold Hid; rw [← hwB]; exact (Below.refl _ _).alloc (Nat.le_refl _) _
            have hbx : ∀ j v, (#[.int .i64 xk, .int .i64 xo, .int .i64 xt, .int .i64 xp, .int .i64 xq, .string (ba xkey), .string (ba xval)] : Array Value)[j]? = some v → wB.cell? ⟨wr.heap.size, j, none⟩ = some v := fun j v e => by
              rw [← hwB, World.cell?_alloc_at _ _ _ _ rfl]; exact e
            have a0 : wB.cell? ⟨wr.heap.size, 0, none⟩ = some (.int .i64 xk) := hbx 0 _ rfl
            have a1 : wB.cell? ⟨wr.heap.size, 1, none⟩ = some (.int .i64 xo) := hbx 1 _ rfl
            have a2 : wB.cell? ⟨wr.heap.size, 2, none⟩ = some (.int .i64 xt) := hbx 2 _ rfl
            have a3 : wB.cell? ⟨wr.heap.size, 3, none⟩ = some (.int .i64 xp) := hbx 3 _ rfl
            have a4 : wB.cell? ⟨wr.heap.size, 4, none⟩ = some (.int .i64 xq) := hbx 4 _ rfl
            have a5 : wB.cell? ⟨wr.heap.size, 5, none⟩ = some (.string (ba xkey)) := hbx 5 _ rfl
            have a6 : wB.cell? ⟨wr.heap.size, 6, none⟩ = some (.string (ba xval)) := hbx 6 _ rfl
            have HA : Hid (∀ u, Below wB.heap.size wB u → u.cell? ⟨wr.heap.size, 0, none⟩ = some (.int .i64 xk) ∧ u.cell? ⟨wr.heap.size, 1, none⟩ = some (.int .i64 xo) ∧ u.cell? ⟨wr.heap.size, 2, none⟩ = some (.int .i64 xt) ∧ u.cell? ⟨wr.heap.size, 3, none⟩ = some (.int .i64 xp) ∧ u.cell? ⟨wr.heap.size, 4, none⟩ = some (.int .i64 xq) ∧ u.cell? ⟨wr.heap.size, 5, none⟩ = some (.string (ba xkey)) ∧ u.cell? ⟨wr.heap.size, 6, none⟩ = some (.string (ba xval))) := fun u hu =>
              ⟨(hu.cell (cell_lt a0)).trans a0, (hu.cell (cell_lt a1)).trans a1, (hu.cell (cell_lt a2)).trans a2, (hu.cell (cell_lt a3)).trans a3, (hu.cell (cell_lt a4)).trans a4, (hu.cell (cell_lt a5)).trans a5, (hu.cell (cell_lt a6)).trans a6⟩
            clear hbx hcr p4
            have HC0 : Hid (∀ u, Calls Tryd.prog 15 #[.int .i64 xk] u fun e w' => e = .returned (.string (ba (Lib.itoa xk))) ∧ Below u.heap.size u w') := rnumberOf xk g0.1 g0.2
            have lk := itoa_len g0.1 g0.2
            go_wp2_with fail
            refine (HC0.out _).mono ?_
            rintro e w1 ⟨rfl, hb⟩
            have HW1 : Hid (Below W1.heap.size W1 w1) := below_on HW.out (below_on HBB.out hb)
            clear v5 v6 v7 c0 c1 c2 c3 c4 c5 c6 a0 a1 a2 a3 a4 a5 a6
            obtain ⟨a0, a1, a2, a3, a4, a5, a6⟩ := HA.out _ hb
            have b1 := cell_regrown a1
            have b2 := cell_regrown a2
            have b3 := cell_regrown a3
            have b4 := cell_regrown a4
            have b5 := cell_regrown a5
            have b6 := cell_regrown a6
            have cI : ∀ n, I64 n → ∀ d os, Calls Tryd.prog 15 #[.int .i64 n] (Go.Sort.grow (redrawn w1 d) os) fun e w'' => e = .returned (.string (ba (Lib.itoa n))) ∧ ∃ p : Regrown, w'' = Go.Sort.grow (redrawn w1 p.d) p.os := fun n hn d os => Calls.regrown_of (rnumberOf n hn.1 hn.2 _)
            have cT : ∀ s : By, s.length ≤ 1125899906842624 → ∀ d os, Calls Tryd.prog 18 #[.string (ba s)] (Go.Sort.grow (redrawn w1 d) os) fun e w'' => e = .returned (.string (ba (txt s))) ∧ ∃ p : Regrown, w'' = Go.Sort.grow (redrawn w1 p.d) p.os := fun s hs d os => Calls.regrown_of (rtextOf s hs _)
            have n1 := cI xo g1
            have n2 := cI xt g2
            have n3 := cI xp g3
            have n4 := cI xq g4
            have n5 := cT xkey g5
            have n6 := cT xval g6
            have l1 := itoa_len g1.1 g1.2
            have l2 := itoa_len g2.1 g2.2
            have l3 := itoa_len g3.1 g3.2
            have l4 := itoa_len g4.1 g4.2
            have l5 := txt_len xkey
            have l6 := txt_len xval
            generalize Lib.itoa xo = i1' at *
            generalize Lib.itoa xt = i2' at *
            generalize Lib.itoa xp = i3' at *
            generalize Lib.itoa xq = i4' at *
            generalize txt xkey = x5 at *
            generalize txt xval = x6 at *
            have s1 : (ba i1').size = i1'.length := rfl
            have s2 : (ba i2').size = i2'.length := rfl
            have s3 : (ba i3').size = i3'.length := rfl
            have s4 : (ba i4').size = i4'.length := rfl
            have s5 : (ba x5).size = x5.length := rfl
            have s6 : (ba x6).size = x6.length := rfl
            clear cI cT HC0 HA hb a1 a2 a3 a4 a5 a6
            obtain ⟨ik, hik⟩ : ∃ ik, Lib.itoa xk = ik := ⟨_, rfl⟩
            rw [hik] at lk ⊢
            have sk : (ba ik).size = ik.length := rfl
            by_cases h1 : xk = 1
            · have HKT : Hid (kindT xk = valueW) := by unfold Hid kindT; rw [if_pos h1]
              have h1' : (xk == 1) = true := by simpa using h1
              have h2' : (xk == 2) = false := by rw [h1]; rfl
              clear h1 hik
              go_wp2_with fail
              refine wp_region_quiet_below (by kernel_rfl) (by kernel_rfl) ?_
              repeat (go_big_quiet_step (first | with_reducible exact n1 _ _ | with_reducible exact n2 _ _ | with_reducible exact n3 _ _ | with_reducible exact n4 _ _ | with_reducible exact n5 _ _ | with_reducible exact n6 _ _))
              refine wpQuiet_nil ?_
              intro _ hw'
              obtain ⟨⟨dq, osq⟩, hw''⟩ := hw'
              subst hw''
              obtain ⟨w7, hw7⟩ : ∃ u, Go.Sort.grow (redrawn w1 dq) osq = u := ⟨_, rfl⟩
              have HW7 : Hid (Below W1.heap.size W1 w7) := by
                unfold Hid
                rw [← hw7]
                exact below_on HW1.out (below_regrown w1 dq osq)
              rw [hw7]
              clear n1 n2 n3 n4 n5 n6 b1 b2 b3 b4 b5 b6 hw7
              go_wp2
              go_roundw
              case rel => exact ⟨k + 1, L ++ sp [kindT xk, i1', i2', i3', i4', x5, x6], by omega, by go_num, by (try simp only [ba]); rw [HKT.out]; exact str_eq (by simp [sp, valueW, tombW, kindP]), HE.out.symm, HW7⟩
              case measure => simp [intOf]; omega
            · have h1' : (xk == 1) = false := by simpa using h1
              by_cases h2 : xk = 2
              · have HKT : Hid (kindT xk = tombW) := by unfold Hid kindT; rw [if_neg h1, if_pos h2]
                have h2' : (xk == 2) = true := by simpa using h2
                clear h1 h2 hik
                go_wp2_with fail
                refine wp_region_quiet_below (by kernel_rfl) (by kernel_rfl) ?_
                repeat (go_big_quiet_step (first | with_reducible exact n1 _ _ | with_reducible exact n2 _ _ | with_reducible exact n3 _ _ | with_reducible exact n4 _ _ | with_reducible exact n5 _ _ | with_reducible exact n6 _ _))
                refine wpQuiet_nil ?_
                intro _ hw'
                obtain ⟨⟨dq, osq⟩, hw''⟩ := hw'
                subst hw''
                obtain ⟨w7, hw7⟩ : ∃ u, Go.Sort.grow (redrawn w1 dq) osq = u := ⟨_, rfl⟩
                have HW7 : Hid (Below W1.heap.size W1 w7) := by
                  unfold Hid
                  rw [← hw7]
                  exact below_on HW1.out (below_regrown w1 dq osq)
                rw [hw7]
                clear n1 n2 n3 n4 n5 n6 b1 b2 b3 b4 b5 b6 hw7
                go_wp2
                go_roundw
                case rel => exact ⟨k + 1, L ++ sp [kindT xk, i1', i2', i3', i4', x5, x6], by omega, by go_num, by (try simp only [ba]); rw [HKT.out]; exact str_eq (by simp [sp, valueW, tombW, kindP]), HE.out.symm, HW7⟩
                case measure => simp [intOf]; omega
              · have h2' : (xk == 2) = false := by simpa using h2
                have HKT : Hid (kindT xk = kindP ++ ik) := by unfold Hid kindT; rw [if_neg h1, if_neg h2, hik]
                clear hik h1 h2
                go_wp2_with fail
                refine wp_region_quiet_below (by kernel_rfl) (by kernel_rfl) ?_
                repeat (go_big_quiet_step (first | with_reducible exact n1 _ _ | with_reducible exact n2 _ _ | with_reducible exact n3 _ _ | with_reducible exact n4 _ _ | with_reducible exact n5 _ _ | with_reducible exact n6 _ _))
                refine wpQuiet_nil ?_
                intro _ hw'
                obtain ⟨⟨dq, osq⟩, hw''⟩ := hw'
                subst hw''
                obtain ⟨w7, hw7⟩ : ∃ u, Go.Sort.grow (redrawn w1 dq) osq = u := ⟨_, rfl⟩
                have HW7 : Hid (Below W1.heap.size W1 w7) := by
                  unfold Hid
                  rw [← hw7]
                  exact below_on HW1.out (below_regrown w1 dq osq)
                rw [hw7]
                clear n1 n2 n3 n4 n5 n6 b1 b2 b3 b4 b5 b6 hw7
                go_wp2
                go_roundw
                case rel => exact ⟨k + 1, L ++ sp [kindT xk, i1', i2', i3', i4', x5, x6], by omega, by go_num, by (try simp only [ba]); rw [HKT.out]; exact str_eq (by simp [sp, valueW, tombW, kindP]), HE.out.symm, HW7⟩
                case measure => simp [intOf]; omega
          · have hki : ¬ (k : Int) < (recs.length : Int) := by omega
            have HL3 : Hid (L = SH) := by
              unfold Hid
              rw [HL.out, HSH.out, show k = recs.length by omega, List.take_length, List.append_assoc]
            clear HL
            go_wp2
            go_ret
            exact ⟨by rw [HL3.out]; rfl, below_on HB1.out HW.out⟩
  | true =>
    have eB : ba L0 ++ (⟨#[32, 109, 111, 114, 101]⟩ : ByteArray) = ba L1 := HL1.out.symm
    go_wp2
    clear eB HL1 v5 v6 v7 hL0 hL0s
    go_loopw [3, 4] (fun o i wl => ∃ (k : Nat) (L : By), k ≤ names.length ∧ i = .int .i64 k ∧ o = .string (ba L) ∧ Hid (L = L1 ++ sp ((names.take k).flatMap nameT)) ∧ Hid (Below W1.heap.size W1 wl)) (fun _ i _ => names.length - (intOf i).toNat)
    case atStart => exact ⟨0, L1, Nat.zero_le _, rfl, rfl, by unfold Hid; simp [sp], HB6⟩
    case round =>
      obtain ⟨k, L, hk, rfl, rfl, HL, HW⟩ := hrel
      have hLl : L.length ≤ 1000000000000000000 := by rw [HL.out]; exact HSN.out k
      have hLs : (ba L).size = L.length := rfl
      obtain ⟨v5, v6, v7⟩ := HCL.out _ HW.out
      obtain ⟨an, cn, rfl, q1, q2, q3, q4⟩ := HN1.out.later HW.out
      by_cases hp : k < names.length
      · have hki : (k : Int) < (names.length : Int) := by omega
        have HSNk := HSN.out (k + 1)
        rw [names_snoc hp, ← List.append_assoc, ← HL.out] at HSNk
        have HE : Hid (L1 ++ sp ((names.take (k + 1)).flatMap nameT) = L ++ (32 :: 110 :: 97 :: 109 :: 101 :: 32 :: txt (names.getD k []))) := by
          unfold Hid; rw [names_snoc hp, ← List.append_assoc, ← HL.out]
        obtain ⟨bn, on, rfl, hcn⟩ := q4 (fun e => by rw [e] at hp; simp at hp)
        have c0 := hcn k hp
        have hxl : (names.getD k []).length ≤ 1125899906842624 := q3 _ (by rw [List.getD_eq_getElem?_getD, List.getElem?_eq_getElem hp]; exact List.getElem_mem hp)
        generalize names.getD k [] = x at *
        have HC : Hid (∀ u, Calls Tryd.prog 18 #[.string (ba x)] u fun e w' => e = .returned (.string (ba (txt x))) ∧ Below u.heap.size u w') := rtextOf x hxl
        have htl := txt_len x
        generalize txt x = tx at *
        have hts : (ba tx).size = tx.length := rfl
        clear HSNk hcn q4
        go_wp2_with fail
        refine (HC.out _).mono ?_
        rintro e w1 ⟨rfl, hb⟩
        have HW1 : Hid (Below W1.heap.size W1 w1) := below_on HW.out hb
        clear v5 v6 v7 c0
        go_wp2
        go_roundw
        case rel => exact ⟨k + 1, L ++ (32 :: 110 :: 97 :: 109 :: 101 :: 32 :: tx), by omega, by go_num, by (try simp only [ba]); exact str_eq (by simp), HE.out.symm, HW1⟩
        case measure => simp [intOf]; omega
      · have hki : ¬ (k : Int) < (names.length : Int) := by omega
        have HL2 : Hid (L = L1 ++ sp (names.flatMap nameT)) := by
          unfold Hid
          rw [HL.out, show k = names.length by omega, List.take_length]
        clear HL v5 v6 v7 q4
        obtain ⟨v5, v6, v7⟩ := HCL.out _ HW.out
        go_wp2
        clear v5 v6 v7 HSN hp hki hk hLl hLs
        have HW6 : Hid (Below W1.heap.size W1 wr) := HW
        clear HW
        go_loopw [3, 5] (fun o i wl => ∃ (k : Nat) (L : By), k ≤ recs.length ∧ i = .int .i64 k ∧ o = .string (ba L) ∧ Hid (L = L1 ++ sp (names.flatMap nameT) ++ sp ((recs.take k).flatMap recT)) ∧ Hid (Below W1.heap.size W1 wl)) (fun _ i _ => recs.length - (intOf i).toNat)
        case atStart => exact ⟨0, L, Nat.zero_le _, rfl, rfl, by unfold Hid; rw [HL2.out]; simp [sp], HW6⟩
        case round =>
          clear HL2
          obtain ⟨k, L, hk, rfl, rfl, HL, HW⟩ := hrel
          have hLl : L.length ≤ 1000000000000000000 := by rw [HL.out]; exact HSR.out k
          have hLs : (ba L).size = L.length := rfl
          obtain ⟨v5, v6, v7⟩ := HCL.out _ HW.out
          obtain ⟨ar, cr, rfl, p1, p2, p3, p4⟩ := HR1.out.later HW.out
          by_cases hp : k < recs.length
          · have hki : (k : Int) < (recs.length : Int) := by omega
            have HE : Hid (L1 ++ sp (names.flatMap nameT) ++ sp ((recs.take (k + 1)).flatMap recT) = L ++ sp (recT (recs.getD k Sr.none))) := by
              unfold Hid; rw [recs_snoc hp, ← List.append_assoc, ← HL.out]
            obtain ⟨br, obr, rfl, hcr⟩ := p4 (fun e => by rw [e] at hp; simp at hp)
            obtain ⟨c0, c1, c2, c3, c4, c5, c6⟩ := hcr k hp
            have hxo : (recs.getD k Sr.none).Ok := p3 _ (by rw [List.getD_eq_getElem?_getD, List.getElem?_eq_getElem hp]; exact List.getElem_mem hp)
            generalize recs.getD k Sr.none = x at *
            obtain ⟨xk, xo, xt, xp, xq, xkey, xval⟩ := x
            obtain ⟨g0, g1, g2, g3, g4, g5, g6⟩ := hxo
            simp only [recT] at c0 c1 c2 c3 c4 c5 c6 g0 g1 g2 g3 g4 g5 g6 HE
            obtain ⟨wB, hwB⟩ : ∃ u, wr.alloc (.cells #[.int .i64 xk, .int .i64 xo, .int .i64 xt, .int .i64 xp, .int .i64 xq, .string (ba xkey), .string (ba xval)] 28) = u := ⟨_, rfl⟩
            have HBB : Hid (Below wr.heap.size wr wB) := by unfold Hid; rw [← hwB]; exact (Below.refl _ _).alloc (Nat.le_refl _) _
            have hbx : ∀ j v, (#[.int .i64 xk, .int .i64 xo, .int .i64 xt, .int .i64 xp, .int .i64 xq, .string (ba xkey), .string (ba xval)] : Array Value)[j]? = some v → wB.cell? ⟨wr.heap.size, j, none⟩ = some v := fun j v e => by
              rw [← hwB, World.cell?_alloc_at _ _ _ _ rfl]; exact e
            have a0 : wB.cell? ⟨wr.heap.size, 0, none⟩ = some (.int .i64 xk) := hbx 0 _ rfl
            have a1 : wB.cell? ⟨wr.heap.size, 1, none⟩ = some (.int .i64 xo) := hbx 1 _ rfl
            have a2 : wB.cell? ⟨wr.heap.size, 2, none⟩ = some (.int .i64 xt) := hbx 2 _ rfl
            have a3 : wB.cell? ⟨wr.heap.size, 3, none⟩ = some (.int .i64 xp) := hbx 3 _ rfl
            have a4 : wB.cell? ⟨wr.heap.size, 4, none⟩ = some (.int .i64 xq) := hbx 4 _ rfl
            have a5 : wB.cell? ⟨wr.heap.size, 5, none⟩ = some (.string (ba xkey)) := hbx 5 _ rfl
            have a6 : wB.cell? ⟨wr.heap.size, 6, none⟩ = some (.string (ba xval)) := hbx 6 _ rfl
            have HA : Hid (∀ u, Below wB.heap.size wB u → u.cell? ⟨wr.heap.size, 0, none⟩ = some (.int .i64 xk) ∧ u.cell? ⟨wr.heap.size, 1, none⟩ = some (.int .i64 xo) ∧ u.cell? ⟨wr.heap.size, 2, none⟩ = some (.int .i64 xt) ∧ u.cell? ⟨wr.heap.size, 3, none⟩ = some (.int .i64 xp) ∧ u.cell? ⟨wr.heap.size, 4, none⟩ = some (.int .i64 xq) ∧ u.cell? ⟨wr.heap.size, 5, none⟩ = some (.string (ba xkey)) ∧ u.cell? ⟨wr.heap.size, 6, none⟩ = some (.string (ba xval))) := fun u hu =>
              ⟨(hu.cell (cell_lt a0)).trans a0, (hu.cell (cell_lt a1)).trans a1, (hu.cell (cell_lt a2)).trans a2, (hu.cell (cell_lt a3)).trans a3, (hu.cell (cell_lt a4)).trans a4, (hu.cell (cell_lt a5)).trans a5, (hu.cell (cell_lt a6)).trans a6⟩
            clear hbx hcr p4
            have HC0 : Hid (∀ u, Calls Tryd.prog 15 #[.int .i64 xk] u fun e w' => e = .returned (.string (ba (Lib.itoa xk))) ∧ Below u.heap.size u w') := rnumberOf xk g0.1 g0.2
            have lk := itoa_len g0.1 g0.2
            go_wp2_with fail
            refine (HC0.out _).mono ?_
            rintro e w1 ⟨rfl, hb⟩
            have HW1 : Hid (Below W1.heap.size W1 w1) := below_on HW.out (below_on HBB.out hb)
            clear v5 v6 v7 c0 c1 c2 c3 c4 c5 c6 a0 a1 a2 a3 a4 a5 a6
            obtain ⟨a0, a1, a2, a3, a4, a5, a6⟩ := HA.out _ hb
            have b1 := cell_regrown a1
            have b2 := cell_regrown a2
            have b3 := cell_regrown a3
            have b4 := cell_regrown a4
            have b5 := cell_regrown a5
            have b6 := cell_regrown a6
            have cI : ∀ n, I64 n → ∀ d os, Calls Tryd.prog 15 #[.int .i64 n] (Go.Sort.grow (redrawn w1 d) os) fun e w'' => e = .returned (.string (ba (Lib.itoa n))) ∧ ∃ p : Regrown, w'' = Go.Sort.grow (redrawn w1 p.d) p.os := fun n hn d os => Calls.regrown_of (rnumberOf n hn.1 hn.2 _)
            have cT : ∀ s : By, s.length ≤ 1125899906842624 → ∀ d os, Calls Tryd.prog 18 #[.string (ba s)] (Go.Sort.grow (redrawn w1 d) os) fun e w'' => e = .returned (.string (ba (txt s))) ∧ ∃ p : Regrown, w'' = Go.Sort.grow (redrawn w1 p.d) p.os := fun s hs d os => Calls.regrown_of (rtextOf s hs _)
            have n1 := cI xo g1
            have n2 := cI xt g2
            have n3 := cI xp g3
            have n4 := cI xq g4
            have n5 := cT xkey g5
            have n6 := cT xval g6
            have l1 := itoa_len g1.1 g1.2
            have l2 := itoa_len g2.1 g2.2
            have l3 := itoa_len g3.1 g3.2
            have l4 := itoa_len g4.1 g4.2
            have l5 := txt_len xkey
            have l6 := txt_len xval
            generalize Lib.itoa xo = i1' at *
            generalize Lib.itoa xt = i2' at *
            generalize Lib.itoa xp = i3' at *
            generalize Lib.itoa xq = i4' at *
            generalize txt xkey = x5 at *
            generalize txt xval = x6 at *
            have s1 : (ba i1').size = i1'.length := rfl
            have s2 : (ba i2').size = i2'.length := rfl
            have s3 : (ba i3').size = i3'.length := rfl
            have s4 : (ba i4').size = i4'.length := rfl
            have s5 : (ba x5).size = x5.length := rfl
            have s6 : (ba x6).size = x6.length := rfl
            clear cI cT HC0 HA hb a1 a2 a3 a4 a5 a6
            obtain ⟨ik, hik⟩ : ∃ ik, Lib.itoa xk = ik := ⟨_, rfl⟩
            rw [hik] at lk ⊢
            have sk : (ba ik).size = ik.length := rfl
            by_cases h1 : xk = 1
            · have HKT : Hid (kindT xk = valueW) := by unfold Hid kindT; rw [if_pos h1]
              have h1' : (xk == 1) = true := by simpa using h1
              have h2' : (xk == 2) = false := by rw [h1]; rfl
              clear h1 hik
              go_wp2_with fail
              refine wp_region_quiet_below (by kernel_rfl) (by kernel_rfl) ?_
              repeat (go_big_quiet_step (first | with_reducible exact n1 _ _ | with_reducible exact n2 _ _ | with_reducible exact n3 _ _ | with_reducible exact n4 _ _ | with_reducible exact n5 _ _ | with_reducible exact n6 _ _))
              refine wpQuiet_nil ?_
              intro _ hw'
              obtain ⟨⟨dq, osq⟩, hw''⟩ := hw'
              subst hw''
              obtain ⟨w7, hw7⟩ : ∃ u, Go.Sort.grow (redrawn w1 dq) osq = u := ⟨_, rfl⟩
              have HW7 : Hid (Below W1.heap.size W1 w7) := by
                unfold Hid
                rw [← hw7]
                exact below_on HW1.out (below_regrown w1 dq osq)
              rw [hw7]
              clear n1 n2 n3 n4 n5 n6 b1 b2 b3 b4 b5 b6 hw7
              go_wp2
              go_roundw
              case rel => exact ⟨k + 1, L ++ sp [kindT xk, i1', i2', i3', i4', x5, x6], by omega, by go_num, by (try simp only [ba]); rw [HKT.out]; exact str_eq (by simp [sp, valueW, tombW, kindP]), HE.out.symm, HW7⟩
              case measure => simp [intOf]; omega
            · have h1' : (xk == 1) = false := by simpa using h1
              by_cases h2 : xk = 2
              · have HKT : Hid (kindT xk = tombW) := by unfold Hid kindT; rw [if_neg h1, if_pos h2]
                have h2' : (xk == 2) = true := by simpa using h2
                clear h1 h2 hik
                go_wp2_with fail
                refine wp_region_quiet_below (by kernel_rfl) (by kernel_rfl) ?_
                repeat (go_big_quiet_step (first | with_reducible exact n1 _ _ | with_reducible exact n2 _ _ | with_reducible exact n3 _ _ | with_reducible exact n4 _ _ | with_reducible exact n5 _ _ | with_reducible exact n6 _ _))
                refine wpQuiet_nil ?_
                intro _ hw'
                obtain ⟨⟨dq, osq⟩, hw''⟩ := hw'
                subst hw''
                obtain ⟨w7, hw7⟩ : ∃ u, Go.Sort.grow (redrawn w1 dq) osq = u := ⟨_, rfl⟩
                have HW7 : Hid (Below W1.heap.size W1 w7) := by
                  unfold Hid
                  rw [← hw7]
                  exact below_on HW1.out (below_regrown w1 dq osq)
                rw [hw7]
                clear n1 n2 n3 n4 n5 n6 b1 b2 b3 b4 b5 b6 hw7
                go_wp2
                go_roundw
                case rel => exact ⟨k + 1, L ++ sp [kindT xk, i1', i2', i3', i4', x5, x6], by omega, by go_num, by (try simp only [ba]); rw [HKT.out]; exact str_eq (by simp [sp, valueW, tombW, kindP]), HE.out.symm, HW7⟩
                case measure => simp [intOf]; omega
              · have h2' : (xk == 2) = false := by simpa using h2
                have HKT : Hid (kindT xk = kindP ++ ik) := by unfold Hid kindT; rw [if_neg h1, if_neg h2, hik]
                clear hik h1 h2
                go_wp2_with fail
                refine wp_region_quiet_below (by kernel_rfl) (by kernel_rfl) ?_
                repeat (go_big_quiet_step (first | with_reducible exact n1 _ _ | with_reducible exact n2 _ _ | with_reducible exact n3 _ _ | with_reducible exact n4 _ _ | with_reducible exact n5 _ _ | with_reducible exact n6 _ _))
                refine wpQuiet_nil ?_
                intro _ hw'
                obtain ⟨⟨dq, osq⟩, hw''⟩ := hw'
                subst hw''
                obtain ⟨w7, hw7⟩ : ∃ u, Go.Sort.grow (redrawn w1 dq) osq = u := ⟨_, rfl⟩
                have HW7 : Hid (Below W1.heap.size W1 w7) := by
                  unfold Hid
                  rw [← hw7]
                  exact below_on HW1.out (below_regrown w1 dq osq)
                rw [hw7]
                clear n1 n2 n3 n4 n5 n6 b1 b2 b3 b4 b5 b6 hw7
                go_wp2
                go_roundw
                case rel => exact ⟨k + 1, L ++ sp [kindT xk, i1', i2', i3', i4', x5, x6], by omega, by go_num, by (try simp only [ba]); rw [HKT.out]; exact str_eq (by simp [sp, valueW, tombW, kindP]), HE.out.symm, HW7⟩
                case measure => simp [intOf]; omega
          · have hki : ¬ (k : Int) < (recs.length : Int) := by omega
            have HL3 : Hid (L = SH) := by
              unfold Hid
              rw [HL.out, HSH.out, show k = recs.length by omega, List.take_length, List.append_assoc]
            clear HL
            go_wp2
            go_ret
            exact ⟨by rw [HL3.out]; rfl, below_on HB1.out HW.out⟩
end Go.Proofs.YtlnppgjppfkocaaDoor.Xs
