import Derived.Test.YtjhbaplnkigifaaQk00
import Derived.BigRegion
/-! keydir: trees of keys in memory. -/
namespace Go.Proofs.Ytjhbaplnkigifaa
open Go.RowKit Plain
set_option linter.unusedVariables false

structure En where
  seg : Int
  pos : Int
  size : Int
  off : Int
  time : Int
  tomb : Bool
structure Ke where
  key : ByteArray
  e : En
def En.zero : En := ⟨0, 0, 0, 0, 0, false⟩
def Ke.zero : Ke := ⟨⟨#[]⟩, En.zero⟩

abbrev En.v (e : En) : Value := .agg #[.int .i64 e.seg, .int .i64 e.pos, .int .i64 e.size, .int .i64 e.off, .int .i64 e.time, .bool e.tomb]
abbrev Ke.v (k : Ke) : Value := .agg #[.string k.key, .int .i64 k.e.seg, .int .i64 k.e.pos, .int .i64 k.e.size, .int .i64 k.e.off, .int .i64 k.e.time, .bool k.e.tomb]

/-- The cells of a node: its key and entry, how many hang on it, its two sides. -/
structure NodeAt (w : World) (g : Nat) (k : Ke) (c : Nat) (pl pr : Option Addr) : Prop where
  c0 : w.cell? ⟨g, 0, none⟩ = some (.string k.key)
  c1 : w.cell? ⟨g, 1, none⟩ = some (.int .i64 k.e.seg)
  c2 : w.cell? ⟨g, 2, none⟩ = some (.int .i64 k.e.pos)
  c3 : w.cell? ⟨g, 3, none⟩ = some (.int .i64 k.e.size)
  c4 : w.cell? ⟨g, 4, none⟩ = some (.int .i64 k.e.off)
  c5 : w.cell? ⟨g, 5, none⟩ = some (.int .i64 k.e.time)
  c6 : w.cell? ⟨g, 6, none⟩ = some (.bool k.e.tomb)
  c7 : w.cell? ⟨g, 7, none⟩ = some (.int .i64 c)
  c8 : w.cell? ⟨g, 8, none⟩ = some (.pointer pl)
  c9 : w.cell? ⟨g, 9, none⟩ = some (.pointer pr)

theorem NodeAt.lt {w : World} {g : Nat} {k : Ke} {c : Nat} {pl pr : Option Addr} (h : NodeAt w g k c pl pr) : g < w.heap.size := cell_lt h.c0
theorem NodeAt.block {w w' : World} {g : Nat} {k : Ke} {c : Nat} {pl pr : Option Addr} (h : NodeAt w g k c pl pr) (e : w'.heap[g]? = w.heap[g]?) : NodeAt w' g k c pl pr := by
  have hc : ∀ (i : Nat), w'.cell? ⟨g, i, none⟩ = w.cell? ⟨g, i, none⟩ := fun i => World.cell?_of_block (w := w) e
  exact ⟨(hc 0).trans h.c0, (hc 1).trans h.c1, (hc 2).trans h.c2, (hc 3).trans h.c3, (hc 4).trans h.c4, (hc 5).trans h.c5, (hc 6).trans h.c6, (hc 7).trans h.c7, (hc 8).trans h.c8, (hc 9).trans h.c9⟩

/-- At p there is a tree, at most n high, of nodes in blocks of P, that holds the keys l in their order. -/
def TreeAt (P : Nat → Prop) (w : World) : Nat → Option Addr → List Ke → Prop
  | 0, p, l => p = none ∧ l = []
  | n + 1, p, l => (p = none ∧ l = []) ∨ ∃ (g : Nat) (k : Ke) (pl pr : Option Addr) (ll lr : List Ke), p = some ⟨g, 0, none⟩ ∧ P g ∧ k.key.size ≤ 64 ∧ NodeAt w g k l.length pl pr ∧ l = ll ++ k :: lr ∧ TreeAt P w n pl ll ∧ TreeAt P w n pr lr

theorem TreeAt.nil (P : Nat → Prop) (w : World) (n : Nat) : TreeAt P w n none [] := by cases n <;> simp [TreeAt]
theorem TreeAt.none_is {P : Nat → Prop} {w : World} {n : Nat} {l : List Ke} (h : TreeAt P w n none l) : l = [] := by
  cases n with
  | zero => exact h.2
  | succ n => rcases h with h | ⟨g, k, pl, pr, ll, lr, e, _⟩
              · exact h.2
              · cases e
theorem TreeAt.some_is {P : Nat → Prop} {w : World} {n : Nat} {a : Addr} {l : List Ke} (h : TreeAt P w n (some a) l) :
    ∃ (m : Nat) (g : Nat) (k : Ke) (pl pr : Option Addr) (ll lr : List Ke), n = m + 1 ∧ a = ⟨g, 0, none⟩ ∧ P g ∧ k.key.size ≤ 64 ∧ NodeAt w g k l.length pl pr ∧ l = ll ++ k :: lr ∧ TreeAt P w m pl ll ∧ TreeAt P w m pr lr := by
  cases n with
  | zero => cases h.1
  | succ n =>
    rcases h with ⟨h, _⟩ | ⟨g, k, pl, pr, ll, lr, e, h⟩
    · cases h
    · cases e; exact ⟨n, g, k, pl, pr, ll, lr, rfl, rfl, h⟩
theorem TreeAt.up {P : Nat → Prop} {w : World} : ∀ {n : Nat} {p : Option Addr} {l : List Ke}, TreeAt P w n p l → ∀ m, n ≤ m → TreeAt P w m p l
  | 0, p, l, h, m, _ => by obtain ⟨rfl, rfl⟩ := h; exact TreeAt.nil P w m
  | n + 1, p, l, h, 0, hm => by omega
  | n + 1, p, l, h, m + 1, hm => by
    rcases h with h | ⟨g, k, pl, pr, ll, lr, e, hp, hk, hn, hl, h1, h2⟩
    · exact .inl h
    · exact .inr ⟨g, k, pl, pr, ll, lr, e, hp, hk, hn, hl, h1.up m (by omega), h2.up m (by omega)⟩
theorem TreeAt.kept {P : Nat → Prop} {w w' : World} : ∀ {n : Nat} {p : Option Addr} {l : List Ke}, TreeAt P w n p l → (∀ g, g < w.heap.size → P g → w'.heap[g]? = w.heap[g]?) → TreeAt P w' n p l
  | 0, p, l, h, _ => h
  | n + 1, p, l, h, hb => by
    rcases h with h | ⟨g, k, pl, pr, ll, lr, e, hp, hk, hn, hl, h1, h2⟩
    · exact .inl h
    · exact .inr ⟨g, k, pl, pr, ll, lr, e, hp, hk, hn.block (hb g hn.lt hp), hl, h1.kept hb, h2.kept hb⟩
theorem TreeAt.later {P : Nat → Prop} {w w' : World} {n : Nat} {p : Option Addr} {l : List Ke} (h : TreeAt P w n p l) (hb : Below w.heap.size w w') : TreeAt P w' n p l := h.kept fun g hg _ => hb.block g hg
theorem TreeAt.node {P : Nat → Prop} {w : World} {n m g : Nat} {k : Ke} {pl pr : Option Addr} {ll lr : List Ke} (hp : P g) (hk : k.key.size ≤ 64) (hn : NodeAt w g k (ll ++ k :: lr).length pl pr) (h1 : TreeAt P w n pl ll) (h2 : TreeAt P w m pr lr) : TreeAt P w (max n m + 1) (some ⟨g, 0, none⟩) (ll ++ k :: lr) :=
  .inr ⟨g, k, pl, pr, ll, lr, rfl, hp, hk, hn, rfl, h1.up _ (by omega), h2.up _ (by omega)⟩

theorem sizeOf {P : Nat → Prop} {n : Nat} {p : Option Addr} {l : List Ke} (w : World) (h : TreeAt P w n p l) : Calls Try.prog 47 #[.pointer p] w fun e w' => e = .returned (.int .i64 l.length) ∧ w' = w := by
  cases p with
  | none =>
    obtain rfl := h.none_is
    go_enter Try.func47, Try.ntmps47
    go_wp2
    go_ret
    exact ⟨rfl, rfl⟩
  | some a =>
    obtain ⟨m, g, k, pl, pr, ll, lr, rfl, rfl, -, -, hn, -, -, -⟩ := h.some_is
    have c7 := hn.c7
    clear h hn
    go_enter Try.func47, Try.ntmps47
    go_wp2
    go_ret
    exact ⟨rfl, rfl⟩

theorem weightOf {P : Nat → Prop} {n : Nat} {p : Option Addr} {l : List Ke} (w : World) (h : TreeAt P w n p l) (hl : l.length ≤ 1125899906842624) : Calls Try.prog 61 #[.pointer p] w fun e w' => e = .returned (.int .i64 (l.length + 1)) ∧ w' = w := by
  go_enter Try.func61, Try.ntmps61
  go_wp2_with (go_at_call 47; refine (sizeOf _ h).mono ?_; rintro e w' ⟨rfl, rfl⟩)
  go_ret
  exact ⟨by go_num, rfl⟩
end Go.Proofs.Ytjhbaplnkigifaa
