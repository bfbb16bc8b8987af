import Derived.Test.YtklfmgkfcacfkaaNb
/-! The document's Read: what it keeps. -/
namespace Go.Proofs.Ytklfmgkfcacfkaa
open Go.RowKit Plain
set_option linter.unusedVariables false
set_option linter.unusedSimpArgs false

theorem Num3.le {R : List Nat} {v u : Nat} (h : Num3 R v u) (hb : ∀ c ∈ R, c < 256) : u ≤ R.length := by
  obtain ⟨x, _, h2, _, h4⟩ := rd_ok R hb (by rw [h.1])
  have := h.1.symm.trans h2
  simp only [Prod.mk.injEq, and_true] at this
  omega
theorem Num3.le_drop {l : List Nat} {p v u : Nat} (h : Num3 (l.drop p) v u) (hb : ∀ c ∈ l, c < 256) : p + u ≤ l.length := by
  have h1 := h.le (fun c hc => hb c (List.mem_of_mem_drop hc))
  have h2 := h.2.1
  rw [List.length_drop] at h1
  omega
/-- Tokens up to the place p. -/
structure Rr (l : List Nat) (w wr : World) (v : Value) (tg : List Tg) (r : Option Nat) (p : Nat) : Prop where
  row : GRow w.heap.size wr v tg r
  be : Below w.heap.size w wr
  lf : Lf l p tg
  cnt : tg.length ≤ p
  pl : p ≤ l.length
theorem Rr.drew {l : List Nat} {w wr : World} {v : Value} {tg : List Tg} {r : Option Nat} {p : Nat} (h : Rr l w wr v tg r p) (n : Nat) : Rr l w (wr.drewN n) v tg r p :=
  ⟨h.row.kept (grow_drewN (below_grow (Below.refl _ _) none) n) (by simp), below_drewN h.be n, h.lf, h.cnt, h.pl⟩
theorem Rr.lit {l : List Nat} {w w0 wx w' : World} {v v' lv : Value} {tg : List Tg} {r q : Option Nat} {p h u g : Nat} (hr : Rr l w w0 v tg r p) (hp : p < l.length) (hn : Num3 (l.drop p) h u) (he : h % 2 = 0) (hfit : p + u + h / 2 ≤ l.length) (hll : l.length ≤ 1048576)
    (hw : Gw w0 wx lv ((l.drop (p + u)).take (h / 2)) q) (ho : OwnG w' v' (tg ++ [⟨lv, (l.drop (p + u)).take (h / 2), 0, 0⟩]) (some g)) (hg : wx.grownBy w' r) (hgr : some g = r ∨ wx.heap.size ≤ g) :
    Rr l w w' v' (tg ++ [⟨lv, (l.drop (p + u)).take (h / 2), 0, 0⟩]) (some g) (p + u + h / 2) := by
  have hb := below_on hr.be hw.be
  have hrow : GRow w.heap.size wx v tg r := hr.row.kept (below_grow hw.be none) (by simp)
  have hrlt : ∀ x, r = some x → x < w0.heap.size := fun x e => by subst e; exact hr.row.own.lt
  have h1 := hn.2.1
  refine ⟨hrow.snoc hb.size hw.ow (fun x e => ⟨?_, fun e2 => ?_⟩) ⟨?_, by simp only; omega, by simp only; omega, by simp only; omega, by simp only; omega⟩ ho hg hgr, ?_, lf_lit lv hr.lf hp hn he, ?_, hfit⟩
  · have := hw.qb x e; have := hr.be.size; omega
  · have := hw.qb x e; have := hrlt x e2; omega
  · simp only [List.length_take, List.length_drop]; omega
  · exact hb.trans (grow_below hg hb.size (fun x hx => hr.row.rb x hx))
  · have := hr.cnt; simp; omega
theorem Rr.mat {l : List Nat} {w w0 w' : World} {v v' : Value} {tg : List Tg} {r : Option Nat} {p h u d x g : Nat} (hr : Rr l w w0 v tg r p) (hp : p < l.length) (hn : Num3 (l.drop p) h u) (he : h % 2 = 1) (hh : h < 2097152) (hd : Num3 (l.drop (p + u)) d x) (hdd : d < 2097152) (hfit : p + u + x ≤ l.length)
    (ho : OwnG w' v' (tg ++ [⟨.slice none 0 0, [], (d : Nat), ((h / 2 : Nat) : Int)⟩]) (some g)) (hg : w0.grownBy w' r) (hgr : some g = r ∨ w0.heap.size ≤ g) :
    Rr l w w' v' (tg ++ [⟨.slice none 0 0, [], (d : Nat), ((h / 2 : Nat) : Int)⟩]) (some g) (p + u + x) := by
  have h1 := hn.2.1
  refine ⟨hr.row.snoc hr.be.size (Own.nil _) (by simp) ⟨by simp, by simp only; omega, by simp only; omega, by simp only; omega, by simp only; omega⟩ ho hg hgr, ?_, lf_mat hr.lf hp hn he hd, ?_, hfit⟩
  · exact hr.be.trans (grow_below hg hr.be.size (fun x hx => hr.row.rb x hx))
  · have := hr.cnt; simp; omega
def RdPost (w : World) (l : List Nat) : Ending → World → Prop := fun e w' => Below w.heap.size w w' ∧
  ((∃ tv tg r n ts, e = .returned (.tuple #[tv, .int .i64 0]) ∧ Sol l n ts ∧ Sims tg ts ∧ GRow w.heap.size w' tv tg r) ∨ (e = .returned (.tuple #[.slice none 0 0, .int .i64 20]) ∧ ∀ k ts, ¬ Sol l k ts))
theorem refNumberAt0 (vb : Value) (l : List Nat) (w : World) (h : BytesAt w vb l) (hl : l.length ≤ 140737488351232) : Calls Try.prog 46 #[vb, .int .i64 0] w fun e w' => (∃ m, w' = w.drewN m) ∧ ((∃ v u : Nat, e = .returned (.tuple #[.int .i64 (v : Int), .int .i64 (u : Int), .bool true]) ∧ v < 2097152 ∧ Num3 l v u) ∨ (e = .returned (.tuple #[.int .i64 0, .int .i64 0, .bool false]) ∧ NoNum l)) := by
  refine (refNumberAt vb l 0 w h (by omega) hl).mono ?_
  rintro e w' ⟨h1, h2⟩
  refine ⟨h1, ?_⟩
  rw [List.drop_zero] at h2
  rcases h2 with ⟨v, u, h3, h4⟩ | ⟨h3, h4⟩
  · exact .inl ⟨v, u, by rw [h3, Nat.zero_add], h4⟩
  · exact .inr ⟨h3, h4⟩
theorem refWriteAny (sv : Value) (tg : List Tg) (w : World) (h : TRd w sv tg) : Calls Try.prog 27 #[sv] w (WrtPost w tg) := by
  by_cases hb : (tlen tg 0).2 = 0
  · exact refWriteGood sv tg w h hb
  · exact refWriteBad sv tg w h hb
end Go.Proofs.Ytklfmgkfcacfkaa
