import Derived.Test.YtgffncbmchimdaaSf2
/-! Files and disks in memory. -/
namespace Go.Proofs.Ytgffncbmchimdaa
open Go.RowKit Go.Maps Plain
set_option linter.unusedVariables false
set_option linter.unusedSimpArgs false

/-- Of the blocks that were there only those of S have turned. -/
structure Chg (S : Nat → Prop) (w w' : World) : Prop where
  os : w'.os = w.os
  tape : w'.tape = w.tape
  output : w'.output = w.output
  size : w.heap.size ≤ w'.heap.size
  block : ∀ k, k < w.heap.size → ¬ S k → w'.heap[k]? = w.heap[k]?
theorem Chg.refl (S : Nat → Prop) (w : World) : Chg S w w := ⟨rfl, rfl, rfl, Nat.le_refl _, fun _ _ _ => rfl⟩
theorem Chg.grown {S : Nat → Prop} {a b c : World} {r : Option Nat} (h : Chg S a b) (k : b.grownBy c r) (hr : ∀ g, r = some g → S g ∨ a.heap.size ≤ g) : Chg S a c :=
  ⟨k.os.trans h.os, k.tape.trans h.tape, k.output.trans h.output, Nat.le_trans h.size k.size, fun i hi hs => by
    rw [k.block i (Nat.lt_of_lt_of_le hi h.size) (fun e => by
      rcases hr i e.symm with h1 | h1
      · exact hs h1
      · omega)]
    exact h.block i hi hs⟩
theorem Chg.more {S : Nat → Prop} {a b c : World} (h : Chg S a b) (k : Below b.heap.size b c) : Chg S a c := h.grown (below_grow k none) (by simp)
theorem Chg.ofBelow {S : Nat → Prop} {a b : World} (k : Below a.heap.size a b) : Chg S a b := (Chg.refl S a).more k
theorem Chg.trans {S : Nat → Prop} {a b c : World} (h : Chg S a b) (k : Chg S b c) : Chg S a c :=
  ⟨k.os.trans h.os, k.tape.trans h.tape, k.output.trans h.output, Nat.le_trans h.size k.size, fun i hi hs => (k.block i (Nat.lt_of_lt_of_le hi h.size) hs).trans (h.block i hi hs)⟩
theorem Chg.mono {S T : Nat → Prop} {a b : World} (h : Chg S a b) (hs : ∀ k, S k → T k) : Chg T a b := ⟨h.os, h.tape, h.output, h.size, fun k hk hn => h.block k hk (fun e => hn (hs k e))⟩
theorem Chg.below {S : Nat → Prop} {w w' : World} {B : Nat} (h : Chg S w w') (hB : B ≤ w.heap.size) (hS : ∀ k, S k → B ≤ k) : Below B w w' :=
  ⟨h.os, h.tape, h.output, h.size, fun k hk => h.block k (by omega) (fun hs => by have := hS k hs; omega)⟩
/-- A footprint that has grown by new memory. -/
def Ext (S : Nat → Prop) (w w' : World) : Nat → Prop := fun k => S k ∨ (w.heap.size ≤ k ∧ k < w'.heap.size)

structure Fl where
  seen : List Nat
  dur : List Nat
  chg : List FC
/-- What is true of a file's states. -/
structure Fl.Ok (f : Fl) : Prop where
  eq : f.seen = fst f.dur f.chg
  cut : ∀ k n, f.chg[k]? = some (FC.cut n) → n ≤ (fst f.dur (f.chg.take k)).length
  len : ∀ k, (fst f.dur (f.chg.take k)).length ≤ 70368744177664
  cnt : f.chg.length ≤ 4398046511103

/-- A file in memory. -/
structure FileM (w : World) (G : Nat) (f : Fl) (vs vd vc : Value) (rs rd rc : Option Nat) (vals : List Value) (blk : Nat → Option Nat) : Prop where
  blkG : w.heap[G]? = some (.cells #[vs, vd, vc] 78)
  seen : Own w vs f.seen rs
  dur : Own w vd f.dur rd
  chg : ChRow w vc f.chg rc vals blk
  sepS : ∀ g, rs = some g → g ≠ G ∧ rd ≠ some g ∧ rc ≠ some g ∧ ∀ j, blk j ≠ some g
  sepD : ∀ g, rd = some g → g ≠ G ∧ rc ≠ some g ∧ ∀ j, blk j ≠ some g
  sepC : ∀ g, rc = some g → g ≠ G ∧ ∀ j, blk j ≠ some g
  sepB : ∀ j g, blk j = some g → g ≠ G
def footF (G : Nat) (rs rd rc : Option Nat) (blk : Nat → Option Nat) : Nat → Prop := fun k => k = G ∨ rs = some k ∨ rd = some k ∨ rc = some k ∨ ∃ j, blk j = some k
def FileAt (w : World) (G : Nat) (f : Fl) (S : Nat → Prop) : Prop := ∃ vs vd vc rs rd rc vals blk, FileM w G f vs vd vc rs rd rc vals blk ∧ (∀ k, footF G rs rd rc blk k → S k) ∧ ∀ k, S k → k < w.heap.size
theorem FileM.frame {w w' : World} {G : Nat} {f : Fl} {vs vd vc : Value} {rs rd rc : Option Nat} {vals : List Value} {blk : Nat → Option Nat} (h : FileM w G f vs vd vc rs rd rc vals blk) (hs : w.heap.size ≤ w'.heap.size) (hb : ∀ k, footF G rs rd rc blk k → w'.heap[k]? = w.heap[k]?) : FileM w' G f vs vd vc rs rd rc vals blk :=
  ⟨(hb G (.inl rfl)).trans h.blkG, h.seen.of_block hs (fun g e => hb g (.inr (.inl e))), h.dur.of_block hs (fun g e => hb g (.inr (.inr (.inl e)))),
    h.chg.of_block hs (fun g e => hb g (.inr (.inr (.inr (.inl e))))) (fun j g e => hb g (.inr (.inr (.inr (.inr ⟨j, e⟩))))), h.sepS, h.sepD, h.sepC, h.sepB⟩
theorem FileAt.frame {w w' : World} {G : Nat} {f : Fl} {S : Nat → Prop} (h : FileAt w G f S) (hs : w.heap.size ≤ w'.heap.size) (hb : ∀ k, S k → w'.heap[k]? = w.heap[k]?) : FileAt w' G f S := by
  obtain ⟨vs, vd, vc, rs, rd, rc, vals, blk, h1, h2, h3⟩ := h
  exact ⟨vs, vd, vc, rs, rd, rc, vals, blk, h1.frame hs (fun k hk => hb k (h2 k hk)), h2, fun k hk => Nat.lt_of_lt_of_le (h3 k hk) hs⟩

/-- A change of the directory: a name for a new file, a name in another's place, a name gone. -/
def DC : Type := (Nm × Nat) ⊕ ((Nm × Nm) ⊕ Nm)
def DC.mk (k : Nm) (g : Nat) : DC := Sum.inl (k, g)
def DC.mv (a b : Nm) : DC := Sum.inr (Sum.inl (a, b))
def DC.rm (k : Nm) : DC := Sum.inr (Sum.inr k)
theorem DC.elim {motive : DC → Prop} (mk : ∀ k g, motive (DC.mk k g)) (mv : ∀ a b, motive (DC.mv a b)) (rm : ∀ k, motive (DC.rm k)) (c : DC) : motive c := by
  rcases c with ⟨k, g⟩ | ⟨a, b⟩ | k
  · exact mk k g
  · exact mv a b
  · exact rm k
def DC.on (L : Dir) (c : DC) : Dir := Sum.elim (fun p => put L p.1 p.2) (Sum.elim (fun p => (look L p.1).elim L fun g => del (put L p.2 g) p.1) (fun k => del L k)) c
theorem DC.on_mk (L : Dir) (k : Nm) (g : Nat) : DC.on L (DC.mk k g) = put L k g := rfl
theorem DC.on_mv (L : Dir) (a b : Nm) : DC.on L (DC.mv a b) = (look L a).elim L fun g => del (put L b g) a := rfl
theorem DC.on_rm (L : Dir) (k : Nm) : DC.on L (DC.rm k) = del L k := rfl
def str (k : Nm) : ByteArray := ⟨k.toArray⟩
theorem str_list (k : Nm) : (str k).data.toList = k := by simp [str]
theorem str_of (s : ByteArray) : str s.data.toList = s := by cases s; simp [str]
/-- The value of a change of the directory. -/
def DC.val (c : DC) : Value := Sum.elim (fun p => .iface 99 (.agg #[.string (str p.1), .pointer (some ⟨p.2, 0, none⟩)])) (Sum.elim (fun p => .iface 110 (.agg #[.string (str p.1), .string (str p.2)])) (fun k => .iface 112 (.agg #[.string (str k)]))) c
theorem DC.val_mk (k : Nm) (g : Nat) : (DC.mk k g).val = .iface 99 (.agg #[.string (str k), .pointer (some ⟨g, 0, none⟩)]) := rfl
theorem DC.val_mv (a b : Nm) : (DC.mv a b).val = .iface 110 (.agg #[.string (str a), .string (str b)]) := rfl
theorem DC.val_rm (k : Nm) : (DC.rm k).val = .iface 112 (.agg #[.string (str k)]) := rfl
def dst (L : Dir) (cs : List DC) : Dir := cs.foldl DC.on L
theorem dst_snoc (L : Dir) (cs : List DC) (c : DC) : dst L (cs ++ [c]) = DC.on (dst L cs) c := by simp [dst]
theorem dst_take (L : Dir) (cs : List DC) (k : Nat) (c : DC) (h : cs[k]? = some c) : dst L (cs.take (k + 1)) = DC.on (dst L (cs.take k)) c := by
  obtain ⟨hk, e⟩ := List.getElem?_eq_some_iff.mp h
  rw [List.take_succ_eq_append_getElem hk, e, dst_snoc]

/-- A disk. -/
structure Dk where
  L : Dir
  Ld : Dir
  chg : List DC
  used : Int
  quota : Int
  ops : Int
  fused : Bool
  left : Int
  dead : Bool
  file : Nat → Fl
  live : Nat → Prop
def MapO (w : World) (m : Option Nat) (L : Dir) : Prop := (m = none ∧ L = []) ∨ ∃ b, m = some b ∧ MapAt w b L
theorem MapO.of_block {w w' : World} {m : Option Nat} {L : Dir} (h : MapO w m L) (hb : ∀ b, m = some b → w'.heap[b]? = w.heap[b]?) : MapO w' m L := by
  rcases h with h | ⟨b, e, h⟩
  · exact .inl h
  · exact .inr ⟨b, e, h.of_block (hb b e)⟩
theorem MapO.lt {w : World} {b : Nat} {L : Dir} (h : MapO w (some b) L) : b < w.heap.size := by
  rcases h with ⟨e, _⟩ | ⟨b', e, h⟩
  · simp at e
  · simp at e; subst e; exact h.lt
structure DiskM (w : World) (d : Nat) (k : Dk) (ms md : Option Nat) (vc : Value) (rc : Option Nat) (Sf : Nat → Nat → Prop) : Prop where
  cells : w.heap[d]? = some (.cells #[.map ms, .map md, vc, .int .i64 k.used, .int .i64 k.quota, .int .i64 k.ops, .bool k.fused, .int .i64 k.left, .bool k.dead] 69)
  seen : MapO w ms k.L
  dur : MapO w md k.Ld
  chg : OwnV w vc (k.chg.map DC.val) rc
  files : ∀ G, k.live G → FileAt w G (k.file G) (Sf G)
  sepS : ∀ b, ms = some b → b ≠ d ∧ md ≠ some b ∧ rc ≠ some b
  sepD : ∀ b, md = some b → b ≠ d ∧ rc ≠ some b
  sepC : ∀ b, rc = some b → b ≠ d
  sepF : ∀ G, k.live G → ∀ x, Sf G x → x ≠ d ∧ ms ≠ some x ∧ md ≠ some x ∧ rc ≠ some x
  sepFF : ∀ G G', k.live G → k.live G' → G ≠ G' → ∀ x, Sf G x → ¬ Sf G' x
def footD (d : Nat) (ms md rc : Option Nat) : Nat → Prop := fun k => k = d ∨ ms = some k ∨ md = some k ∨ rc = some k
/-- A disk in memory: all of it lies in S. -/
def DiskAt (w : World) (d : Nat) (k : Dk) (S : Nat → Prop) : Prop := ∃ ms md vc rc Sf, DiskM w d k ms md vc rc Sf ∧ (∀ x, footD d ms md rc x → S x) ∧ (∀ G x, k.live G → Sf G x → S x) ∧ ∀ x, S x → x < w.heap.size
theorem DiskM.frame {w w' : World} {d : Nat} {k : Dk} {ms md : Option Nat} {vc : Value} {rc : Option Nat} {Sf : Nat → Nat → Prop} (h : DiskM w d k ms md vc rc Sf) (hs : w.heap.size ≤ w'.heap.size) (h1 : ∀ x, footD d ms md rc x → w'.heap[x]? = w.heap[x]?) (h2 : ∀ G x, k.live G → Sf G x → w'.heap[x]? = w.heap[x]?) : DiskM w' d k ms md vc rc Sf :=
  ⟨(h1 d (.inl rfl)).trans h.cells, h.seen.of_block (fun b e => h1 b (.inr (.inl e))), h.dur.of_block (fun b e => h1 b (.inr (.inr (.inl e)))), h.chg.of_block hs (fun b e => h1 b (.inr (.inr (.inr e)))),
    fun G hG => (h.files G hG).frame hs (fun x hx => h2 G x hG hx), h.sepS, h.sepD, h.sepC, h.sepF, h.sepFF⟩
theorem DiskAt.frame {w w' : World} {d : Nat} {k : Dk} {S : Nat → Prop} (h : DiskAt w d k S) (hs : w.heap.size ≤ w'.heap.size) (hb : ∀ x, S x → w'.heap[x]? = w.heap[x]?) : DiskAt w' d k S := by
  obtain ⟨ms, md, vc, rc, Sf, h1, h2, h3, h4⟩ := h
  exact ⟨ms, md, vc, rc, Sf, h1.frame hs (fun x hx => hb x (h2 x hx)) (fun G x hG hx => hb x (h3 G x hG hx)), h2, h3, fun x hx => Nat.lt_of_lt_of_le (h4 x hx) hs⟩
theorem DiskAt.later {w w' : World} {d : Nat} {k : Dk} {S : Nat → Prop} (h : DiskAt w d k S) (hb : Below w.heap.size w w') : DiskAt w' d k S := by
  refine h.frame hb.size (fun x hx => hb.block x ?_)
  obtain ⟨_, _, _, _, _, _, _, _, h4⟩ := h
  exact h4 x hx
/-- Another thing is not touched. -/
theorem DiskAt.apart {w w' : World} {d : Nat} {k : Dk} {S T : Nat → Prop} (h : DiskAt w d k S) (hc : Chg T w w') (hd : ∀ x, S x → ¬ T x) : DiskAt w' d k S := by
  refine h.frame hc.size (fun x hx => hc.block x ?_ (hd x hx))
  obtain ⟨_, _, _, _, _, _, _, _, h4⟩ := h
  exact h4 x hx
end Go.Proofs.Ytgffncbmchimdaa
