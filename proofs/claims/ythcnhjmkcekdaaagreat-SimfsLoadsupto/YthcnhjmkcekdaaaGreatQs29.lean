import Derived.Test.YthcnhjmkcekdaaaGreatQs28
import Derived.Test.YthcnhjmkcekdaaaGreatQs14
import Derived.Test.YthcnhjmkcekdaaaGreatQs17
namespace Go.Proofs.YthcnhjmkcekdaaaGreat
open Go.RowKit Go.Maps Plain
set_option linter.unusedVariables false
set_option linter.unusedSimpArgs false
/-- A new row of texts. -/
structure TxNew (W w : World) (v : Value) (l : List Nm) (r : Option Nat) : Prop where
  row : OwnV w v (l.map encStr) r
  new : ∀ g, r = some g → W.heap.size ≤ g
  below : Below W.heap.size W w
theorem TxNew.later {W w w' : World} {v : Value} {l : List Nm} {r : Option Nat} (h : TxNew W w v l r) (hb : Below w.heap.size w w') : TxNew W w' v l r := ⟨h.row.of_block hb.size (fun g e => hb.block g (h.row.rlt g e)), h.new, h.below.trans (hb.mono h.below.size)⟩
theorem TxNew.nil (w : World) : TxNew w w (.slice none 0 0) [] none := ⟨OwnV.nil _, by simp, Below.refl _ _⟩
theorem TxNew.app {W w w' : World} {v v' : Value} {l : List Nm} {x : Nm} {r : Option Nat} {g : Nat} (h : TxNew W w v l r) (ho : OwnV w' v' (l.map encStr ++ [encStr x]) (some g)) (hg : w.grownBy w' r) (hr : some g = r ∨ g = w.heap.size) : TxNew W w' v' (l ++ [x]) (some g) := by
  have hs := h.below.size
  refine ⟨by rw [List.map_append]; exact ho, fun g' e => ?_, h.below.grown hg h.below.size (fun k e => h.new k e)⟩
  cases e
  rcases hr with e | e
  · exact h.new g e.symm
  · omega
theorem Tryz.infoSTR : (Tryz.prog.info? 9).map (fun i => (i.zero, i.size, i.bytes)) = some (some (Value.string ByteArray.empty), 1, 16) := by kernel_rfl
def RliP (k : Rk) (w : World) (e : Ending) (w' : World) : Prop := ∃ a N c r, e = .returned (.tuple #[.slice a N c, .int .i64 (if k.off = true then 34 else 0)]) ∧ TxNew w w' (.slice a N c) (if k.off = true then [] else k.ps.last.map (·.1)) r
set_option maxHeartbeats 4000000 in
set_option maxRecDepth 1000000 in
theorem rlistOf {w : World} {gp : Nat} {k : Rk} {B : Nat → Prop} {blk : Nat → Option Nat} {vF vD : Value} {xs : List Ino} {dv : List Value} {sv tv : Nat → List Value} (h : RdM w gp k B blk vF vD xs dv sv tv) (hk : k.Ok) :
    Calls Tryz.prog 63 #[.pointer (some ⟨gp, 0, none⟩)] w (RliP k w) := by
  have c4 := (rcells h.cells).1.2.2.2.2.1
  cases hoff : k.off with
  | true =>
    rw [hoff] at c4
    have HF : Hid (RliP k w (.returned (.tuple #[.slice none 0 0, .int .i64 34])) w) := ⟨none, 0, 0, none, by rw [if_pos hoff], by rw [if_pos hoff]; exact TxNew.nil w⟩
    clear h hoff
    go_enter Tryz.func63, Tryz.ntmps63
    go_wp2
    go_ret2
    exact HF.out
  | false =>
    rw [hoff] at c4
    have HSE := Hid.mkR (seenOf h hk.d1 (by have := hk.ps.dl; omega))
    obtain ⟨a, c, r, e, hrow, -⟩ := h.see hk.d1
    rw [e] at HSE
    have HR : Hid (OwnNw w (.slice a k.ps.last.length c) (k.ps.last.map nwOf) r) := hrow
    have hll := hk.see
    have HFI : Hid (∀ a N c r w', TxNew w w' (.slice a N c) (k.ps.last.map (·.1)) r → RliP k w (.returned (.tuple #[.slice a N c, .int .i64 0])) w') := fun a N c r w' ht => ⟨a, N, c, r, by rw [if_neg (by rw [hoff]; simp)], by rw [if_neg (by rw [hoff]; simp)]; exact ht⟩
    obtain ⟨tx, htx, hy0, hy1, hy2⟩ := info_parts Tryz.infoSTR
    clear h e hrow hoff
    generalize k.ps.last = l at *
    go_enter Tryz.func63, Tryz.ntmps63
    go_wp2_with fail
    refine HSE.out.mono ?_
    rintro e w1 ⟨rfl, n1, rfl⟩
    have HN0 : Hid (TxNew w (w.drewN n1) (.slice none 0 0) [] none) := (TxNew.nil w).later (below_drewN (Below.refl _ _) n1)
    clear HSE c4
    go_wp2
    go_loopw [4, 6] (fun m i wr => ∃ k : Nat, k ≤ l.length ∧ i = .int .i64 k ∧ Hid (∃ r, TxNew w wr m ((l.take k).map (·.1)) r)) (fun _ i _ => l.length - (intOf i).toNat)
    case atStart => exact ⟨0, by omega, rfl, ⟨none, HN0.out⟩⟩
    case round =>
      obtain ⟨k', hk', rfl, HK⟩ := hrel
      obtain ⟨r2, hN⟩ := HK.out
      obtain ⟨a2, N2, cap2, rfl⟩ : ∃ a2 N2 cap2, u4 = .slice a2 N2 cap2 := hN.row.shape.elim fun a h => h.elim fun c h2 => ⟨a, _, c, h2.1⟩
      have HNN := Hid.mkR hN
      clear HK
      by_cases hlt : k' < l.length
      · have hki : (k' : Int) < (l.length : Int) := by omega
        obtain ⟨g, rfl, rfl, d0, d1⟩ := row_nw (HR.out.later hN.below) hlt
        have HTK : Hid ((l.take (k' + 1)).map (·.1) = (l.take k').map (·.1) ++ [(l.getD k' ([], 0)).1]) := by unfold Hid; rw [take_getD ([], 0) hlt, List.map_append]; rfl
        have htl : ((l.take k').map (·.1)).length ≤ 2199023255000 := by simp; omega
        clear hN
        generalize l.getD k' ([], 0) = x at d0 d1 HTK
        generalize (l.take k').map (·.1) = TS at HNN HTK htl
        have htl2 : (TS.map encStr).length ≤ 4398046511104 := by rw [List.length_map]; omega
        have HNR := Hid.mkR (HNN.out.later ((Below.refl _ wr).alloc (Nat.le_refl _) (.cells #[.string (str x.1)] 9))).row
        have HAP : Hid (∀ v4 w4 g4, OwnV w4 v4 (TS.map encStr ++ [.string (str x.1)]) (some g4) → (wr.alloc (.cells #[.string (str x.1)] 9)).grownBy w4 r2 → (some g4 = r2 ∨ g4 = (wr.alloc (.cells #[.string (str x.1)] 9)).heap.size) → TxNew w w4 v4 (TS ++ [x.1]) (some g4)) := fun v4 w4 g4 q1 q2 q3 => (HNN.out.later ((Below.refl _ _).alloc (Nat.le_refl _) _)).app q1 q2 q3
        clear htl HNN
        generalize TS.map encStr = TE at *
        go_wp2_with (at_builtin; refine wpList_append_val _ rfl _ _ 103 9 tx (.string ByteArray.empty) rfl Tryz.underlying103 htx hy0 rfl hy1 (by rw [hy2]; decide) _ _ (.string (str x.1)) TE r2 rfl rfl ?hOwn ?hSrc ?hLen ?_)
        case hOwn => exact HNR.out
        case hSrc => exact src_val wr _ rfl _ 9 _ Tryz.underlying103
        case hLen => exact htl2
        intro v4 w4 g4 ho4 hg4 hr4
        have hv4 : ∃ a4 N4 c4, v4 = .slice a4 N4 c4 := ho4.shape.elim fun a4 h => h.elim fun c4 h2 => ⟨a4, _, c4, h2.1⟩
        obtain ⟨a4, N4, c4, rfl⟩ := hv4
        have HF : Hid (∃ r, TxNew w w4 (.slice a4 N4 c4) ((l.take (k' + 1)).map (·.1)) r) := ⟨some g4, by
          rw [HTK.out]
          exact HAP.out _ _ _ ho4 hg4 (by simpa using hr4)⟩
        clear ho4 hg4 hr4 HNR HAP HTK
        go_wp2
        go_roundw
        case rel => exact ⟨k' + 1, by omega, by go_num, HF⟩
        case measure => simp [intOf]; omega
      · have hke : k' = l.length := by omega
        have HF : Hid (RliP k w (.returned (.tuple #[.slice a2 N2 cap2, .int .i64 0])) wr) := HFI.out a2 N2 cap2 r2 wr (by have := HNN.out; rw [hke, List.take_length] at this; exact this)
        clear hN HNN hke
        go_wp2
        go_ret2
        exact HF.out
/-- What Image answers. -/
def rimL (p : Ps) (l : List (Nm × Nat)) : List (Nm × List Nat) := l.map fun x => (x.1, p.now x.2)
/-- The files so far. -/
def ImS (W : World) (im : List (Nm × List Nat)) (v : Value) (w : World) : Prop := ∃ ts r blk, ImgM w v im W.heap.size ts r blk ∧ Below W.heap.size W w
theorem ImS.nil (w : World) : ImS w [] (.slice none 0 0) w := ⟨[], none, fun _ => none, ⟨.inl ⟨rfl, rfl, rfl⟩, by simp, by simp, by simp, by simp, by simp, by simp⟩, Below.refl _ _⟩
theorem ImS.later {W w w' : World} {im : List (Nm × List Nat)} {v : Value} (h : ImS W im v w) (hb : Below w.heap.size w w') : ImS W im v w' := by
  obtain ⟨ts, r, blk, h1, h2⟩ := h
  exact ⟨ts, r, blk, h1.later hb, h2.trans (hb.mono h2.size)⟩
theorem ImS.shape {W w : World} {im : List (Nm × List Nat)} {v : Value} (h : ImS W im v w) : ∃ a N c, v = .slice a N c := by
  obtain ⟨ts, r, blk, h1, h2⟩ := h
  exact h1.row.shape.elim fun a h => h.elim fun c h2 => ⟨a, _, c, h2.1⟩
/-- One file more. -/
theorem ImS.push {W w w3 : World} {im : List (Nm × List Nat)} {v : Value} {nm : Nm} {l : List Nat} {a3 : Option Addr} {n3 c3 : Nat} {q : Option Nat} (h : ImS W im v w) (hb : Below w.heap.size w w3) (ho : Own w3 (.slice a3 n3 c3) l q) (hq : ∀ g, q = some g → w.heap.size ≤ g) :
    ∃ ts r, OwnI (w3.alloc (.cells #[.string (str nm), .slice a3 n3 c3] 46)) v ts r ∧ ts.length = im.length ∧ ∀ v4 w4 g4, OwnI w4 v4 (ts ++ [⟨str nm, .slice a3 n3 c3⟩]) (some g4) → (w3.alloc (.cells #[.string (str nm), .slice a3 n3 c3] 46)).grownBy w4 r → (some g4 = r ∨ g4 = (w3.alloc (.cells #[.string (str nm), .slice a3 n3 c3] 46)).heap.size) → ImS W (im ++ [(nm, l)]) v4 w4 := by
  obtain ⟨ts, r, blk, h1, h2⟩ := h
  have hb34 : Below w3.heap.size w3 (w3.alloc (.cells #[.string (str nm), .slice a3 n3 c3] 46)) := (Below.refl _ _).alloc (Nat.le_refl _) _
  have hsz := h2.size
  have hsz3 := hb.size
  have hsz4 : (w3.alloc (.cells #[.string (str nm), .slice a3 n3 c3] 46)).heap.size = w3.heap.size + 1 := by simp
  have m3 := (h1.later hb).later hb34
  have hbW : Below W.heap.size W (w3.alloc (.cells #[.string (str nm), .slice a3 n3 c3] 46)) := h2.trans ((hb.trans (hb34.mono hb.size)).mono h2.size)
  refine ⟨ts, r, m3.row, h1.len, fun v4 w4 g4 q1 q2 q3 => ⟨_, _, _, m3.push (ho.later hb34) (k := nm) (fun g e => ?_) q1 q2 q3 (by omega), hbW.grown q2 hbW.size (fun g e => h1.rbase g e)⟩⟩
  have hg := hq g e
  refine ⟨by omega, fun e2 => ?_, fun j e2 => ?_⟩
  · rw [e2] at h1; have := h1.row.lt; omega
  · have := h1.live e2; omega
set_option maxHeartbeats 4000000 in
set_option maxRecDepth 1000000 in
theorem rimageOf {w : World} {gp : Nat} {k : Rk} {B : Nat → Prop} {blk : Nat → Option Nat} {vF vD : Value} {xs : List Ino} {dv : List Value} {sv tv : Nat → List Value} (h : RdM w gp k B blk vF vD xs dv sv tv) (hk : k.Ok) (hlen : ∀ f, f < k.ps.files.length → (k.ps.now f).length ≤ 70368744177664) :
    Calls Tryz.prog 31 #[.pointer (some ⟨gp, 0, none⟩)] w fun e w' => ∃ a N c, e = .returned (.slice a N c) ∧ ImS w (rimL k.ps k.ps.last) (.slice a N c) w' := by
  have HSE := Hid.mkR (seenOf h hk.d1 (by have := hk.ps.dl; omega))
  obtain ⟨a, c, r, e, hrow, -⟩ := h.see hk.d1
  rw [e] at HSE
  have HR : Hid (OwnNw w (.slice a k.ps.last.length c) (k.ps.last.map nwOf) r) := hrow
  have hll := hk.see
  have HB : Hid (∀ x ∈ k.ps.last, ∀ u, Below w.heap.size w u → ∃ a c, BytesAt u (.slice a (k.ps.now x.2).length c) (k.ps.now x.2) ∧ (k.ps.now x.2).length ≤ 70368744177664 ∧ Calls Tryz.prog 55 #[.pointer (some ⟨gp, 0, none⟩), .int .i64 x.2] u fun e w' => e = .returned (.slice a (k.ps.now x.2).length c) ∧ ∃ m, w' = u.drewN m) := fun x hx u hu => by
    obtain ⟨h1, h2, h3⟩ := hk.ref hx
    obtain ⟨a, c, r, ho, -, hc, -⟩ := bytesG (h.later hu) h1 h2 (by have := hk.ps.fl; omega) (by omega)
    exact ⟨a, c, ho.bytes, hlen _ h1, hc 0⟩
  clear h e hrow hlen
  generalize hl : k.ps.last = l at *
  clear hl
  go_enter Tryz.func31, Tryz.ntmps31
  go_wp2_with fail
  refine HSE.out.mono ?_
  rintro e w1 ⟨rfl, n1, rfl⟩
  have HN0 : Hid (ImS w [] (.slice none 0 0) (w.drewN n1)) := (ImS.nil w).later (below_drewN (Below.refl _ _) n1)
  clear HSE
  go_wp2
  go_loopw [3, 5] (fun m i wr => ∃ j : Nat, j ≤ l.length ∧ i = .int .i64 j ∧ Hid (ImS w (rimL k.ps (l.take j)) m wr)) (fun _ i _ => l.length - (intOf i).toNat)
  case atStart => exact ⟨0, by omega, rfl, HN0.out⟩
  case round =>
    obtain ⟨j, hj, rfl, HK⟩ := hrel
    obtain ⟨a2, N2, cap2, rfl⟩ := HK.out.shape
    have hbw : Below w.heap.size w wr := by obtain ⟨_, _, _, -, h2⟩ := HK.out; exact h2
    by_cases hlt : j < l.length
    · have hki : (j : Int) < (l.length : Int) := by omega
      obtain ⟨g, rfl, rfl, d0, d1⟩ := row_nw (HR.out.later hbw) hlt
      have hmem : l.getD j ([], 0) ∈ l := by rw [List.getD_eq_getElem?_getD, List.getElem?_eq_getElem hlt]; exact List.getElem_mem hlt
      obtain ⟨aB, cB, hby, hbl, hcall⟩ := HB.out _ hmem wr hbw
      have HC := Hid.mkR hcall
      have HBY := Hid.mkR hby
      have HTK : Hid (rimL k.ps (l.take (j + 1)) = rimL k.ps (l.take j) ++ [((l.getD j ([], 0)).1, k.ps.now (l.getD j ([], 0)).2)]) := by unfold Hid rimL; rw [take_getD ([], 0) hlt, List.map_append]; rfl
      have hil : (rimL k.ps (l.take j)).length ≤ 2199023255000 := by unfold rimL; simp; omega
      clear hcall hby hmem hbw
      generalize l.getD j ([], 0) = x at *
      generalize hnl : k.ps.now x.2 = nw at *
      clear hnl
      generalize hNL : nw.length = NL at *
      go_wp2_with fail
      refine HC.out.mono ?_
      rintro e w2 ⟨rfl, n2, rfl⟩
      have HCP := Hid.mkR (copiedR (HBY.out.later (below_drewN (Below.refl _ _) n2)) (by omega))
      have e0 : (wr.drewN n2).cell? ⟨g, j * 2, none⟩ = some (.string (str x.1)) := d0
      have e1 : (wr.drewN n2).cell? ⟨g, j * 2 + 1, none⟩ = some (.int .i64 (x.2 : Int)) := d1
      have HK2 := Hid.mkR (HK.out.later (below_drewN (Below.refl _ _) n2))
      clear HC HBY HK d0 d1
      generalize wr.drewN n2 = w2 at *
      go_wp2_with fail
      refine HCP.out.mono ?_
      rintro e w3 ⟨a3, N3, c3, r3, rfl, hn3⟩
      have f0 := (hn3.below.cell (p := ⟨g, j * 2, none⟩) (cell_lt e0)).trans e0
      have f1 := (hn3.below.cell (p := ⟨g, j * 2 + 1, none⟩) (cell_lt e1)).trans e1
      obtain ⟨ts, ri, hoi, htl, hpu⟩ := HK2.out.push (nm := x.1) hn3.below hn3.row hn3.new
      have HOI := Hid.mkR hoi
      have HPU := Hid.mkR hpu
      clear hoi hpu hn3 HCP e0 e1 HK2
      have htb : ts.length ≤ 2199023255000 := by omega
      clear htl
      go_wp2_with (at_builtin; refine wpList_append_files _ rfl _ _ rfl _ _ ts [⟨str x.1, .slice a3 N3 c3⟩] ri rfl rfl ?hOwn ?hSrc ?hLen (.inr (Nat.succ_pos _)) ?_)
      case hOwn => exact HOI.out
      case hSrc => exact src_file w3 (str x.1) a3 N3 c3
      case hLen => simp; omega
      intro v4 w4 g4 ho4 hg4 hr4
      have hv4 : ∃ a4 N4 c4, v4 = .slice a4 N4 c4 := ho4.shape.elim fun a4 h => h.elim fun c4 h2 => ⟨a4, _, c4, h2.1⟩
      obtain ⟨a4, N4, c4, rfl⟩ := hv4
      have HF : Hid (ImS w (rimL k.ps (l.take (j + 1))) (.slice a4 N4 c4) w4) := by
        unfold Hid
        rw [HTK.out]
        exact HPU.out _ _ _ ho4 hg4 (by simpa using hr4)
      clear ho4 hg4 hr4 HOI HPU HTK f0 f1
      go_wp2
      go_roundw
      case rel => exact ⟨j + 1, by omega, by go_num, HF⟩
      case measure => simp [intOf]; omega
    · have hke : j = l.length := by omega
      have HF : Hid (ImS w (rimL k.ps l) (.slice a2 N2 cap2) wr) := by have := HK.out; rw [hke, List.take_length] at this; exact this
      clear HK hke hbw
      go_wp2
      go_ret
      exact ⟨_, _, _, rfl, HF.out⟩
end Go.Proofs.YthcnhjmkcekdaaaGreat

namespace Go.Proofs.YthcnhjmkcekdaaaGreat
open Go.RowKit Go.Maps Plain
set_option linter.unusedVariables false
set_option linter.unusedSimpArgs false
/-- Picks, j of them taken. -/
structure PkAt (w : World) (gk : Nat) (v : Value) (ps : List Int) (j : Nat) : Prop where
  blk : w.heap[gk]? = some (.cells #[v, .int .i64 (j : Int)] 119)
  row : PicksAt w v ps
  off : PicksOff gk v
  jl : j ≤ ps.length
def nxt (ps : List Int) (j : Nat) : Nat := if j < ps.length then j + 1 else j
theorem nxt_tail (ps : List Int) (j : Nat) : ps.drop (nxt ps j) = (ps.drop j).tail := by
  unfold nxt
  by_cases h : j < ps.length
  · rw [if_pos h, List.tail_drop]
  · rw [if_neg h, List.drop_of_length_le (by omega)]; rfl
theorem pkcells {w : World} {d : Nat} {a0 a1 : Value} (h : w.heap[d]? = some (.cells #[a0, a1] 119)) : w.cell? ⟨d, 0, none⟩ = some a0 ∧ w.cell? ⟨d, 1, none⟩ = some a1 ∧ w.frozen? ⟨d, 0, none⟩ = false ∧ w.frozen? ⟨d, 1, none⟩ = false := by
  simp [World.cell?, World.frozen?, h]
theorem PkAt.frame {w w' : World} {gk : Nat} {v : Value} {ps : List Int} {j : Nat} (h : PkAt w gk v ps j) (hb : ∀ x, x ≤ gk → w'.heap[x]? = w.heap[x]?) : PkAt w' gk v ps j :=
  ⟨(hb gk (Nat.le_refl _)).trans h.blk, h.row.cells h.off (fun b hb2 => hb b (by omega)), h.off, h.jl⟩
theorem PkAt.put {w w' : World} {gk : Nat} {v : Value} {ps : List Int} {j j' : Nat} (h : PkAt w gk v ps j) (hj : j' ≤ ps.length) (hw : w' = w.setCell ⟨gk, 1, none⟩ (.int .i64 (j' : Int))) : PkAt w' gk v ps j' := by
  subst hw
  have hgl : gk < w.heap.size := (Array.getElem?_eq_some_iff.mp h.blk).1
  have hg := grow_set w gk 1 (.int .i64 (j' : Int))
  refine ⟨?_, h.row.cells h.off (fun b hb => hg.block b (by omega) (fun e => by have := Option.some.inj e; omega)), h.off, hj⟩
  exact heap_setCell_same w gk 1 _ _ _ h.blk
theorem upV_mod (p : Int) (r : List Int) {N : Nat} (hN : 1 ≤ N) : ((upV (p :: r) (N - 1) : Nat) : Int) = p % (N : Int) := by
  obtain ⟨n, rfl⟩ : ∃ n, N = n + 1 := ⟨N - 1, by omega⟩
  show ((p % (((n + 1 - 1 : Nat) : Int) + 1)).toNat : Int) = _
  rw [Nat.add_sub_cancel]
  have a1 := Int.emod_nonneg p (show (n : Int) + 1 ≠ 0 by omega)
  rw [Int.toNat_of_nonneg a1]
  simp
theorem tmod_N (p : Int) {N : Nat} (hN : 1 ≤ N) : (p.tmod (N : Int) < 0 → p.tmod (N : Int) + N = p % (N : Int)) ∧ (¬ p.tmod (N : Int) < 0 → p.tmod (N : Int) = p % (N : Int)) := by
  obtain ⟨n, rfl⟩ : ∃ n, N = n + 1 := ⟨N - 1, by omega⟩
  have := tmod_adj p n
  rw [show (((n + 1 : Nat)) : Int) = (n : Int) + 1 by omega]
  exact this
theorem retJ {x y : Int} (h : x = y) : Ending.returned (.int .i64 x) = .returned (.int .i64 y) := by rw [h]
set_option maxHeartbeats 4000000 in
set_option maxRecDepth 1000000 in
theorem nextOf {w : World} {gk : Nat} {v : Value} {ps : List Int} {j : Nat} (h : PkAt w gk v ps j) (N : Nat) (h1 : 1 ≤ N) (hN : N ≤ 4611686018427387904) :
    Calls Tryz.prog 72 #[.pointer (some ⟨gk, 0, none⟩), .int .i64 (N : Int)] w fun e w' => e = .returned (.int .i64 (upV (ps.drop j) (N - 1) : Int)) ∧ PkAt w' gk v ps (nxt ps j) ∧ w.grownBy w' (some gk) := by
  obtain ⟨c0, c1, f0, f1⟩ := pkcells h.blk
  obtain ⟨a, cap, rfl, p1, p2, p3, p4⟩ := h.row
  unfold maxLen at p2
  have hjl := h.jl
  have hNz : (N : Int) ≠ 0 := by omega
  have hNp : (0 : Int) < (N : Int) := by omega
  by_cases hlt : j < ps.length
  · have hne : ps ≠ [] := by rintro rfl; simp at hlt
    obtain ⟨b, off, rfl, p5⟩ := p4 hne
    have hget : ps[j]? = some ps[j] := List.getElem?_eq_getElem hlt
    have hc := p5 j _ hget
    obtain ⟨i1, i2⟩ := p3 ps[j] (List.getElem_mem hlt)
    have HD : Hid (ps.drop j = ps[j] :: ps.drop (j + 1)) := List.drop_eq_getElem_cons hlt
    have HU := Hid.mkR (upV_mod ps[j] (ps.drop (j + 1)) h1)
    have HT := tmod_N ps[j] h1
    have hji : (j : Int) < (ps.length : Int) := by omega
    have hj0 : (0 : Int) ≤ (j : Int) := by omega
    have HPUT : Hid (∀ u, (∃ n, u = w.drewN n) → PkAt (u.setCell ⟨gk, 1, none⟩ (.int .i64 ((j : Int) + 1))) gk (.slice (some ⟨b, off, none⟩) ps.length cap) ps (j + 1) ∧ w.grownBy (u.setCell ⟨gk, 1, none⟩ (.int .i64 ((j : Int) + 1))) (some gk)) := fun u hu => by
      obtain ⟨n, rfl⟩ := hu
      have hh : PkAt (w.drewN n) gk (.slice (some ⟨b, off, none⟩) ps.length cap) ps j := h.frame (fun _ _ => rfl)
      refine ⟨hh.put (by omega) (by norm_cast), ?_⟩
      have := grow_set (w.drewN n) gk 1 (.int .i64 ((j : Int) + 1))
      exact ⟨this.os, this.tape, this.output, this.size, this.block⟩
    have hnx : nxt ps j = j + 1 := by unfold nxt; rw [if_pos hlt]
    rw [hnx, HD.out]
    have t1 : -(N : Int) < ps[j].tmod (N : Int) ∧ ps[j].tmod (N : Int) < (N : Int) := by
      constructor
      · have := Int.lt_tmod_of_pos ps[j] hNp; omega
      · exact Int.tmod_lt_of_pos ps[j] hNp
    clear h p3 p4 p5 hne hget hnx HD
    generalize hx : ps[j] = x at *
    clear hx
    generalize hL : ps.length = L at *
    clear hL
    by_cases hneg : x.tmod (N : Int) < 0
    · have HV : Hid (x.tmod (N : Int) + N = ((upV (x :: ps.drop (j + 1)) (N - 1) : Nat) : Int)) := by unfold Hid; rw [HU.out]; exact HT.1 hneg
      clear HT HU
      generalize upV (x :: ps.drop (j + 1)) (N - 1) = UU at *
      go_enter Tryz.func72, Tryz.ntmps72
      go_wp2_with fail
      go_quiet (fail)
      have e0 : (w.drewN nq).cell? ⟨gk, 0, none⟩ = some (.slice (some ⟨b, off, none⟩) L cap) := c0
      have e1 : (w.drewN nq).cell? ⟨gk, 1, none⟩ = some (.int .i64 (j : Int)) := c1
      have e2 : (w.drewN nq).cell? ⟨b, off + j, none⟩ = some (.int .i64 x) := hc
      have ef : (w.drewN nq).frozen? ⟨gk, 1, none⟩ = false := f1
      have HE1 : Hid (∃ n, w.drewN nq = w.drewN n) := ⟨nq, rfl⟩
      clear c0 c1 hc f0 f1
      generalize w.drewN nq = w1 at *
      go_wp2_with fail
      go_quiet (fail)
      have g1 : (w1.drewN nq).cell? ⟨gk, 1, none⟩ = some (.int .i64 (j : Int)) := e1
      have gf : (w1.drewN nq).frozen? ⟨gk, 1, none⟩ = false := ef
      have HE2 : Hid (∃ n, w1.drewN nq = w.drewN n) := by
        obtain ⟨n, hn⟩ := HE1.out
        exact ⟨n + nq, by rw [hn, World.drewN_drewN]⟩
      clear e0 e1 e2 ef HE1
      generalize w1.drewN nq = w2 at *
      have HF := Hid.mkR (HPUT.out w2 HE2.out)
      clear HPUT HE2
      go_wp2
      go_ret
      exact ⟨retJ HV.out, HF.out⟩
    · have HV : Hid (x.tmod (N : Int) = ((upV (x :: ps.drop (j + 1)) (N - 1) : Nat) : Int)) := by unfold Hid; rw [HU.out]; exact HT.2 hneg
      clear HT HU
      generalize upV (x :: ps.drop (j + 1)) (N - 1) = UU at *
      go_enter Tryz.func72, Tryz.ntmps72
      go_wp2_with fail
      go_quiet (fail)
      have e0 : (w.drewN nq).cell? ⟨gk, 0, none⟩ = some (.slice (some ⟨b, off, none⟩) L cap) := c0
      have e1 : (w.drewN nq).cell? ⟨gk, 1, none⟩ = some (.int .i64 (j : Int)) := c1
      have e2 : (w.drewN nq).cell? ⟨b, off + j, none⟩ = some (.int .i64 x) := hc
      have ef : (w.drewN nq).frozen? ⟨gk, 1, none⟩ = false := f1
      have HE1 : Hid (∃ n, w.drewN nq = w.drewN n) := ⟨nq, rfl⟩
      clear c0 c1 hc f0 f1
      generalize w.drewN nq = w1 at *
      go_wp2_with fail
      go_quiet (fail)
      have g1 : (w1.drewN nq).cell? ⟨gk, 1, none⟩ = some (.int .i64 (j : Int)) := e1
      have gf : (w1.drewN nq).frozen? ⟨gk, 1, none⟩ = false := ef
      have HE2 : Hid (∃ n, w1.drewN nq = w.drewN n) := by
        obtain ⟨n, hn⟩ := HE1.out
        exact ⟨n + nq, by rw [hn, World.drewN_drewN]⟩
      clear e0 e1 e2 ef HE1
      generalize w1.drewN nq = w2 at *
      have HF := Hid.mkR (HPUT.out w2 HE2.out)
      clear HPUT HE2
      go_wp2
      go_ret
      exact ⟨retJ HV.out, HF.out⟩
  · have hje : j = ps.length := by omega
    have hnx : nxt ps j = j := by unfold nxt; rw [if_neg hlt]
    have hu : upV (ps.drop j) (N - 1) = 0 := by rw [List.drop_of_length_le (by omega)]; rfl
    rw [hnx, hu]
    have HF : Hid (∀ n, PkAt (w.drewN n) gk (.slice a ps.length cap) ps j ∧ w.grownBy (w.drewN n) (some gk)) := fun n => ⟨h.frame (fun _ _ => rfl), below_grow (below_drewN (Below.refl _ _) n) _⟩
    have hji : ¬ (j : Int) < (ps.length : Int) := by omega
    clear h p3 p4 hnx hu
    generalize hL : ps.length = L at *
    clear hL
    subst hje
    go_enter Tryz.func72, Tryz.ntmps72
    go_wp2_with fail
    go_quiet (fail)
    have HF2 := Hid.mkR (HF.out nq)
    clear HF
    go_wp2
    go_ret
    exact ⟨rfl, HF2.out⟩
end Go.Proofs.YthcnhjmkcekdaaaGreat

namespace Go.Proofs.YthcnhjmkcekdaaaGreat
open Go.RowKit Go.Maps Plain
set_option linter.unusedVariables false
set_option linter.unusedSimpArgs false
/-- v is a slice of files that reads as im. -/
def ImR (w : World) (v : Value) (im : List (Nm × List Nat)) : Prop := ∃ a cap, v = .slice a im.length cap ∧ im.length ≤ cap ∧ cap ≤ 2 ^ 63 - 1 ∧ (im ≠ [] → ∃ b, a = some ⟨b, 0, none⟩ ∧ ∀ j k l, im[j]? = some (k, l) → ∃ ad nd cd, w.cell? ⟨b, j * 2, none⟩ = some (.string (str k)) ∧ w.cell? ⟨b, j * 2 + 1, none⟩ = some (.slice ad nd cd) ∧ BytesAt w (.slice ad nd cd) l)
theorem ImgAt.read {w : World} {v : Value} {im : List (Nm × List Nat)} {base : Nat} (h : ImgAt w v im base) : ImR w v im := by
  obtain ⟨ts, r, blk, hm⟩ := h
  have hl := hm.len
  rcases hm.row with ⟨rfl, rfl, _⟩ | ⟨g, cap, hr, rfl, hg, h1, h2, h3, h4, h5⟩
  · have : im = [] := List.eq_nil_of_length_eq_zero (by simpa using hl.symm)
    subst this
    exact ⟨none, 0, rfl, by simp, by omega, by simp⟩
  · unfold maxLen at h2
    refine ⟨_, cap, by rw [hl], by omega, by omega, fun _ => ⟨g, rfl, fun j k l hj => ?_⟩⟩
    have hjl := (List.getElem?_eq_some_iff.mp hj).1
    obtain ⟨dv, e1, ho⟩ := hm.one j (k, l) hj
    have hrow := hm.row
    rw [hr] at hrow
    obtain ⟨c0, c1⟩ := hrow.at (j := j) (by omega)
    have e2 : ts.getD j Fi.none = ⟨str k, dv⟩ := by simp [List.getD_eq_getElem?_getD, e1]
    rw [e2] at c0 c1
    obtain ⟨a', n', c', rfl⟩ := isSliceO ho
    exact ⟨a', n', c', c0, c1, ho.bytes⟩
/-- An image stays while its own blocks stay. -/
theorem ImgAt.hold {u w : World} {v : Value} {im : List (Nm × List Nat)} {lo : Nat} (h : ImgAt u v im lo) (hs : u.heap.size ≤ w.heap.size) (hb : ∀ x, lo ≤ x → x < u.heap.size → w.heap[x]? = u.heap[x]?) : ImgAt w v im lo := by
  obtain ⟨ts, r, blk, hm⟩ := h
  have hrow : OwnI w v ts r := by
    rcases hm.row with h0 | ⟨g, cap, rfl, rfl, hg, h1, h2, h3, h4, h5⟩
    · exact .inl h0
    · have e := hb g (hm.rbase g rfl) hg
      refine .inr ⟨g, cap, rfl, rfl, Nat.lt_of_lt_of_le hg hs, h1, h2, fun j hj => ?_, fun j hj => ?_, fun j hj => ?_⟩
      · rw [World.frozen?_of_block (w := u) (a := ⟨g, j, none⟩) e]; exact h3 j hj
      · rw [World.cell?_of_block (w := u) (a := ⟨g, j, none⟩) e]; exact h4 j hj
      · rw [World.cell?_of_block (w := u) (a := ⟨g, j, none⟩) e]; exact h5 j hj
  exact ⟨ts, r, blk, hrow, hm.len, fun j p hp => by
    obtain ⟨dv, e1, ho⟩ := hm.one j p hp
    exact ⟨dv, e1, ho.of_block hs (fun g e => hb g (hm.bbase j g e).1 (hm.live e))⟩, hm.rbase, hm.bbase, hm.out, hm.apart⟩
set_option maxHeartbeats 4000000 in
set_option maxRecDepth 1000000 in
theorem sameImageEq (v1 v2 : Value) (im : List (Nm × List Nat)) (w : World) (h1 : ImR w v1 im) (h2 : ImR w v2 im) : Calls Tryz.prog 12 #[v1, v2] w fun e w' => e = .returned (.bool true) ∧ Below w.heap.size w w' := by
  obtain ⟨a1, c1, rfl, p1, p2, p3⟩ := h1
  obtain ⟨a2, c2, rfl, q1, q2, q3⟩ := h2
  have HP3 : Hid (im ≠ [] → ∃ b, a1 = some ⟨b, 0, none⟩ ∧ ∀ j k l, im[j]? = some (k, l) → ∃ ad nd cd, w.cell? ⟨b, j * 2, none⟩ = some (.string (str k)) ∧ w.cell? ⟨b, j * 2 + 1, none⟩ = some (.slice ad nd cd) ∧ BytesAt w (.slice ad nd cd) l) := p3
  have HQ3 : Hid (im ≠ [] → ∃ b, a2 = some ⟨b, 0, none⟩ ∧ ∀ j k l, im[j]? = some (k, l) → ∃ ad nd cd, w.cell? ⟨b, j * 2, none⟩ = some (.string (str k)) ∧ w.cell? ⟨b, j * 2 + 1, none⟩ = some (.slice ad nd cd) ∧ BytesAt w (.slice ad nd cd) l) := q3
  clear p3 q3
  go_enter Tryz.func12, Tryz.ntmps12
  go_wp2
  go_loopg [5] im.length (fun gk s5 wx => ∃ (i n : Nat), i + gk = im.length ∧ s5 = .int .i64 i ∧ wx = w.drewN n)
  case atStart => exact ⟨0, 0, by omega, rfl, rfl⟩
  case round =>
    obtain ⟨i, n, hi, rfl, hwr⟩ := hrel
    have HWR : Hid (wr = w.drewN n) := hwr
    clear hwr
    cases gk with
    | zero =>
      obtain rfl : i = im.length := by omega
      go_wp2
      go_ret
      exact ⟨rfl, by rw [HWR.out]; exact below_drewN' w n⟩
    | succ gk1 =>
      have hil : i < im.length := by omega
      have hne : im ≠ [] := by rintro rfl; simp at hil
      obtain ⟨⟨k, l⟩, hkl⟩ : ∃ p, im[i]? = some p := ⟨_, List.getElem?_eq_getElem hil⟩
      obtain ⟨b1, rfl, f1⟩ := HP3.out hne
      obtain ⟨b2, rfl, f2⟩ := HQ3.out hne
      obtain ⟨ad1, nd1, cd1, g1', g2', g3'⟩ := f1 i k l hkl
      obtain ⟨ad2, nd2, cd2, g4', g5', g6'⟩ := f2 i k l hkl
      have g1 : wr.cell? ⟨b1, i * 2, none⟩ = some (.string (str k)) := by rw [HWR.out]; exact g1'
      have g2 : wr.cell? ⟨b1, i * 2 + 1, none⟩ = some (.slice ad1 nd1 cd1) := by rw [HWR.out]; exact g2'
      have g3 : BytesAt wr (.slice ad1 nd1 cd1) l := by rw [HWR.out]; exact g3'.drewN n
      have g4 : wr.cell? ⟨b2, i * 2, none⟩ = some (.string (str k)) := by rw [HWR.out]; exact g4'
      have g5 : wr.cell? ⟨b2, i * 2 + 1, none⟩ = some (.slice ad2 nd2 cd2) := by rw [HWR.out]; exact g5'
      have g6 : BytesAt wr (.slice ad2 nd2 cd2) l := by rw [HWR.out]; exact g6'.drewN n
      clear g1' g2' g3' g4' g5' g6'
      have HSM : Hid (∀ nn, Calls Tryz.prog 39 #[.slice ad1 nd1 cd1, .slice ad2 nd2 cd2] (wr.drewN nn) fun e w' => e = .returned (.bool true) ∧ ∃ m, w' = (wr.drewN nn).drewN m) := fun nn => by
        have := sameBytes _ _ l l (wr.drewN nn) (g3.drewN nn) (g6.drewN nn)
        rw [decide_eq_true (rfl : l = l)] at this
        exact this
      have hsk : decide (str k ≠ str k) = false := by simp
      clear f1 f2 g3 g6 hkl hne
      generalize str k = sk at *
      go_wp2
      go_quiet (first | (go_at_call 39; exact Calls.quiet_of (HSM.out _)))
      go_wp2
      go_roundg gk1
      case measure => omega
      case rel => exact ⟨i + 1, _, by omega, by go_num, by rw [HWR.out, World.drewN_drewN]⟩
theorem readyDead {S : Nat → Prop} {w w1 : World} {d : Nat} {k : Dk} (h : St S w d k w1) (hd : k.dead = true) : Calls Tryz.prog 77 #[.pointer (some ⟨d, 0, none⟩), .slice none 0 0] w1 fun e w' => e = .returned (.int .i64 34) ∧ w' = w1 := by
  obtain ⟨ms, md, vc, rc, Sf, hm⟩ := h.at
  have := readyOf d k.dead [] _ w1 hm.at0.2 (StrsAt.none w1)
  rw [show rdy k.dead [] = 34 by unfold rdy; rw [hd]; rfl] at this
  exact this
theorem listDead {S : Nat → Prop} {w w1 : World} {d : Nat} {k : Dk} (h : St S w d k w1) (hd : k.dead = true) : Calls Tryz.prog 62 #[.pointer (some ⟨d, 0, none⟩)] w1 fun e w' => e = .returned (.tuple #[.slice none 0 0, .int .i64 34]) ∧ w' = w1 := by
  have HR : Hid (Calls Tryz.prog 77 #[.pointer (some ⟨d, 0, none⟩), .slice none 0 0] w1 fun e w' => e = .returned (.int .i64 34) ∧ w' = w1) := readyDead h hd
  clear h hd
  go_enter Tryz.func62, Tryz.ntmps62
  go_wp2_with fail
  refine HR.out.mono ?_
  rintro e w2 ⟨rfl, rfl⟩
  go_wp2
  go_ret2
  exact ⟨rfl, rfl⟩
end Go.Proofs.YthcnhjmkcekdaaaGreat

namespace Go.Proofs.YthcnhjmkcekdaaaGreat
open Go.RowKit Go.Maps Plain
set_option linter.unusedVariables false
set_option linter.unusedSimpArgs false
/-- A new row of the directory's names, rising. -/
def NmsPost (L : Dir) (w1 : World) (v : Value) (w2 : World) : Prop := ∃ a c r, v = .slice a (nms L).length c ∧ (nms L).length ≤ c ∧ c ≤ 2 ^ 63 - 1 ∧ OwnV w2 (.slice a (nms L).length c) ((nms L).map encStr) r ∧ (∀ g, r = some g → w1.heap.size ≤ g) ∧ Below w1.heap.size w1 w2
theorem risingAll (w1 : World) (m : Option Nat) (L : Dir) (h : MapO w1 m L) (hmax : L.length ≤ 2199023255000) :
    Calls Tryz.prog 83 #[.map m] w1 fun e w2 => ∃ v, e = .returned v ∧ NmsPost L w1 v w2 := by
  rcases h with ⟨rfl, rfl⟩ | ⟨b, rfl, h⟩
  · refine (risingNil w1).mono ?_
    rintro e w2 ⟨rfl, h2⟩
    have e0 : nms [] = [] := by simp [nms, srt]
    refine ⟨_, rfl, ?_⟩
    unfold NmsPost
    rw [e0]
    exact ⟨none, 0, none, rfl, by simp, by simp, OwnV.nil _, by simp, h2⟩
  · refine (risingAt b L w1 h (by omega)).mono ?_
    rintro e w2 ⟨v, ss, rfl, hp, hrow, _, h2⟩
    have hs : ss.mergeSort (fun x y => decide (x ≤ y)) = nms L := srt_eq hp
    rw [hs] at hrow
    obtain ⟨r, h3, h4⟩ := OwnV.of_row hrow
    obtain ⟨a, c, rfl, h5, h6⟩ := h3.shape
    rw [List.length_map] at h3 h6
    unfold maxLen at h5
    exact ⟨_, rfl, a, c, r, by rw [List.length_map], h6, by omega, h3, h4, h2⟩
theorem listLive {S : Nat → Prop} {w w1 : World} {d : Nat} {k : Dk} (h : St S w d k w1) (hd : k.dead = false) (hfew : k.L.length ≤ 2199023255000) :
    Calls Tryz.prog 62 #[.pointer (some ⟨d, 0, none⟩)] w1 fun e w' => ∃ v, e = .returned (.tuple #[v, .int .i64 0]) ∧ NmsPost k.L w1 v w' := by
  obtain ⟨ms, md, vc, rc, Sf, hm⟩ := h.at
  have HR : Hid (Calls Tryz.prog 77 #[.pointer (some ⟨d, 0, none⟩), .slice none 0 0] w1 fun e w' => e = .returned (.int .i64 0) ∧ w' = w1) := by
    have := readyOf d k.dead [] _ w1 hm.at0.2 (StrsAt.none w1)
    rw [show rdy k.dead [] = 0 by unfold rdy; rw [hd]; rfl] at this
    exact this
  have HI : Hid (Calls Tryz.prog 83 #[.map ms] w1 fun e w2 => ∃ v, e = .returned v ∧ NmsPost k.L w1 v w2) := risingAll w1 ms k.L hm.seen hfew
  have hc := hm.at0.1
  clear hm h hd hfew
  go_enter Tryz.func62, Tryz.ntmps62
  go_wp2_with fail
  refine HR.out.mono ?_
  rintro e w2 ⟨rfl, rfl⟩
  go_wp2_with fail
  refine HI.out.mono ?_
  rintro e w3 ⟨v, rfl, hp⟩
  have HP : Hid (NmsPost k.L w2 v w3) := hp
  clear hp
  go_wp2
  go_ret2
  exact ⟨_, rfl, HP.out⟩
end Go.Proofs.YthcnhjmkcekdaaaGreat

namespace Go.Proofs.YthcnhjmkcekdaaaGreat
open Go.RowKit Go.Maps Plain
set_option linter.unusedVariables false
set_option linter.unusedSimpArgs false
theorem imgL_alike {σ τ : Type} (L : Dir) (B : σ → Nat → List Nat) (nx : σ → Nat → σ) (C : τ → Nat → List Nat) (ny : τ → Nat → τ) : ∀ (ks : List Nm) (s : σ) (t : τ), (∀ k ∈ ks, ∀ s t, B s (fileOf L k) = C t (fileOf L k)) → imgL L B nx s ks = imgL L C ny t ks
  | [], s, t, h => rfl
  | k :: ks, s, t, h => by
    rw [imgL, imgL, h k (List.mem_cons_self ..) s t, imgL_alike L B nx C ny ks _ _ (fun x hx => h x (List.mem_cons_of_mem _ hx))]
theorem fileOf_mem {L : Dir} {k : Nm} (h : k ∈ nms L) : (k, fileOf L k) ∈ L := by
  obtain ⟨g, hg⟩ := look_some (nms_mem.1 h)
  have := look_mem hg
  unfold fileOf
  rw [hg]
  exact this
/-- Nothing is pending. -/
structure Dk.Still (k : Dk) : Prop where
  dir : k.chg = []
  file : ∀ p ∈ k.L, (k.file p.2).chg = []
theorem lf_quiet {f : Fl} (ps : List Int) (hc : f.chg = []) (hf : f.Ok) : (lf ps f).1 = f.seen := by
  have e := hf.eq
  unfold lf lfB
  rw [hc] at e ⊢
  simp only [List.getElem?_nil, List.take_nil]
  exact e.symm
theorem Dk.Still.crash {k : Dk} {n : Nat} (h : k.Still) (hk : k.Dok n) (ps : List Int) : crK k ps = imK k := by
  have e1 : crL k ps = k.L := by
    unfold crL
    rw [hk.eq, h.dir, List.take_nil]
  unfold crK imK
  rw [e1]
  refine imgL_alike _ _ _ _ _ _ _ _ (fun nm hn s t => ?_)
  have hm := fileOf_mem hn
  exact lf_quiet s (h.file _ hm) (hk.ok.fok _ (hk.ok.refs _ hm)).1
/-- What lasts. -/
def duK (k : Dk) : List (Nm × List Nat) := imgL k.Ld (fun (_ : Unit) G => (k.file G).dur) (fun _ _ => ()) () (nms k.Ld)
theorem lf_none (f : Fl) : lf [] f = (f.dur, []) := by
  unfold lf lfB
  show (f.chg[0]?).elim (fst f.dur (f.chg.take 0), _) _ = _
  cases e : f.chg[0]? with
  | none => rfl
  | some c =>
    show (fst f.dur (f.chg.take 0) ++ (tornB [] c).1, (tornB [] c).2) = _
    rcases c with b | m
    · show (fst f.dur (f.chg.take 0) ++ (b.take 0), ([] : List Int)) = _
      simp [fst]
    · show (fst f.dur (f.chg.take 0) ++ [], ([] : List Int)) = _
      simp [fst]
theorem crK_none (k : Dk) : crK k [] = duK k := by
  unfold crK duK
  have e1 : crL k [] = k.Ld := rfl
  rw [e1]
  have : ∀ (ks : List Nm) (t : Unit), imgL k.Ld (fun ps G => (lf ps (k.file G)).1) (fun ps G => (lf ps (k.file G)).2) [] ks = imgL k.Ld (fun (_ : Unit) G => (k.file G).dur) (fun _ _ => ()) t ks := by
    intro ks
    induction ks with
    | nil => intro t; rfl
    | cons x ks ih =>
      intro t
      rw [imgL, imgL, lf_none]
      exact congrArg _ (ih ())
  exact this _ _
/-- What lasts has not turned. -/
theorem duK_of {k k' : Dk} (hL : k'.Ld = k.Ld) (hf : ∀ p ∈ k.Ld, (k'.file p.2).dur = (k.file p.2).dur) : duK k' = duK k := by
  unfold duK
  rw [hL]
  exact imgL_alike _ _ _ _ _ _ _ _ (fun nm hn _ _ => hf _ (fileOf_mem hn))
theorem duK_set {k : Dk} {G : Nat} {f : Fl} (h : f.dur = (k.file G).dur) : duK (k.setFile G f) = duK k := duK_of rfl (fun p hp => by
  show (upd k.file G f p.2).dur = _
  unfold upd
  by_cases e : p.2 = G
  · rw [if_pos e, h, e]
  · rw [if_neg e])
theorem duK_add {k : Dk} {G : Nat} (hp : k.Past) (hG : ¬ k.live G) : duK (k.addFile G) = duK k := duK_of rfl (fun p hm => by
  show (upd k.file G _ p.2).dur = _
  unfold upd
  rw [if_neg (fun e : p.2 = G => hG (e ▸ hp.ld p hm))])
theorem duK_chK {k : Dk} {G : Nat} {kd m : Int} {nm to' : ByteArray} {l : List Nat} (hp : k.Past) (hG : ¬ k.live G) (h4 : kd ≠ 4) (h5 : kd ≠ 5) : duK (chK k kd nm to' m l G).2 = duK k := by
  have hs : duK k.spent = duK k := rfl
  unfold chK
  rw [if_neg h4, if_neg h5]
  split
  · unfold createK
    split
    · rfl
    split
    · rfl
    split
    · rfl
    split
    · exact duK_add (k := k.spent) ⟨hp.ld, hp.made, hp.few⟩ hG
    · rfl
  split
  · unfold appendK
    split
    · split
      · rfl
      split
      · split
        · exact duK_set (k := k.spent) rfl
        · rfl
      · rfl
    · rfl
  split
  · unfold truncK
    split
    · split
      · split
        · rfl
        split
        · exact duK_set (k := k.spent.uses _) rfl
        · rfl
      · rfl
    · rfl
  split
  · unfold renameK
    split
    · rfl
    split
    · rfl
    split
    · split
      · rfl
      · rfl
    · rfl
  · unfold removeK
    split
    · split
      · rfl
      · rfl
    · rfl
end Go.Proofs.YthcnhjmkcekdaaaGreat
