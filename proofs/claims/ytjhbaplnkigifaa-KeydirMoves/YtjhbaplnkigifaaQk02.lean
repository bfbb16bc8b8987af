import Derived.Test.YtjhbaplnkigifaaQk01
import Derived.Deep.RegionWith
/-! keydir: nodes are made, turned, and put into balance. -/
namespace Go.Proofs.Ytjhbaplnkigifaa
open Go.RowKit Plain
set_option linter.unusedVariables false

def TreeRet (P : Nat → Prop) (w : World) (l : List Ke) (e : Ending) (w' : World) : Prop := ∃ (n : Nat) (p : Option Addr), e = .returned (.pointer p) ∧ TreeAt P w' n p l ∧ Below w.heap.size w w'

theorem NodeAt.new (w : World) (k : Ke) (c : Nat) (pl pr : Option Addr) : NodeAt (w.alloc (.cells #[.string k.key, .int .i64 k.e.seg, .int .i64 k.e.pos, .int .i64 k.e.size, .int .i64 k.e.off, .int .i64 k.e.time, .bool k.e.tomb, .int .i64 c, .pointer pl, .pointer pr] 78)) w.heap.size k c pl pr := by
  constructor <;> exact World.cell?_alloc_at _ _ _ _ rfl

theorem i64w (x : Int) (h1 : -9223372036854775808 ≤ x) (h2 : x ≤ 9223372036854775807) : IntKind.i64.wrap x = x := by
  rw [IntKind.wrap_i64]; omega
theorem overNum (a b : Nat) (h : a + b ≤ 1125899906842623) : IntKind.i64.wrap (IntKind.i64.wrap ((a : Int) + b) + 1) = ((a + b + 1 : Nat) : Int) := by
  rw [i64w ((a : Int) + b) (by omega) (by omega), i64w _ (by omega) (by omega)]; omega

theorem overEnd {P : Nat → Prop} {n m g : Nat} {pl pr : Option Addr} {ll lr : List Ke} {k : Ke} {w u : World} {c : Int} (hP : ∀ g, w.heap.size ≤ g → P g) (hk : k.key.size ≤ 64) (h1 : TreeAt P w n pl ll) (h2 : TreeAt P w m pr lr) (hu : Below w.heap.size w u) (hg : g = u.heap.size) (hc : c = ((ll.length + lr.length + 1 : Nat) : Int)) :
    TreeRet P w (ll ++ k :: lr) (.returned (.pointer (some ⟨g, 0, none⟩))) ((u.alloc (.cells #[.string k.key, .int .i64 k.e.seg, .int .i64 k.e.pos, .int .i64 k.e.size, .int .i64 k.e.off, .int .i64 k.e.time, .bool k.e.tomb, .int .i64 c, .pointer pl, .pointer pr] 78)).drew) := by
  subst hg hc
  have hb : Below w.heap.size w ((u.alloc (.cells #[.string k.key, .int .i64 k.e.seg, .int .i64 k.e.pos, .int .i64 k.e.size, .int .i64 k.e.off, .int .i64 k.e.time, .bool k.e.tomb, .int .i64 ((ll.length + lr.length + 1 : Nat) : Int), .pointer pl, .pointer pr] 78)).drew) := Below.drew (hu.alloc hu.size _)
  refine ⟨_, _, rfl, TreeAt.node (hP _ hu.size) hk ?_ (h1.later hb) (h2.later hb), hb⟩
  have hn := NodeAt.new u k (ll.length + lr.length + 1) pl pr
  have e : (ll ++ k :: lr).length = ll.length + lr.length + 1 := by simp; omega
  rw [e]
  exact hn.block rfl

set_option maxHeartbeats 4000000 in
theorem overOf {P : Nat → Prop} {n m : Nat} {pl pr : Option Addr} {ll lr : List Ke} (k : Ke) (w : World) (hP : ∀ g, w.heap.size ≤ g → P g) (hk : k.key.size ≤ 64) (h1 : TreeAt P w n pl ll) (h2 : TreeAt P w m pr lr) (hl : ll.length + lr.length ≤ 1125899906842623) :
    Calls Try.prog 51 #[k.v, .pointer pl, .pointer pr] w (TreeRet P w (ll ++ k :: lr)) := by
  have H1 : Hid (∀ u, Below w.heap.size w u → Calls Try.prog 47 #[.pointer pl] u fun e w' => e = .returned (.int .i64 ll.length) ∧ w' = u) := fun u hu => sizeOf u (h1.later hu)
  have H2 : Hid (∀ u, Below w.heap.size w u → Calls Try.prog 47 #[.pointer pr] u fun e w' => e = .returned (.int .i64 lr.length) ∧ w' = u) := fun u hu => sizeOf u (h2.later hu)
  have hb0 : Below w.heap.size w (w.alloc (.cells #[.string k.key, .int .i64 k.e.seg, .int .i64 k.e.pos, .int .i64 k.e.size, .int .i64 k.e.off, .int .i64 k.e.time, .bool k.e.tomb] 58)) := (Below.refl _ _).alloc (Nat.le_refl _) _
  have HB : Hid (∀ (u : World) n, Below w.heap.size w u → Below w.heap.size w (u.drewN n)) := fun u n h => below_drewN h n
  go_enter Try.func51, Try.ntmps51
  go_wp2
  go_region_with (first
    | (go_at_call 47
       refine (H1.out _ (by first | exact hb0 | exact Below.drew hb0)).mono ?_
       clear H1
       rintro e w1 ⟨rfl, rfl⟩)
    | (go_at_call 47
       refine (H2.out _ (by first | exact hb0 | exact Below.drew hb0)).mono ?_
       clear H2
       rintro e w2 ⟨rfl, rfl⟩))
  all_goals
    go_wp2
    go_ret
    exact overEnd hP hk h1 h2 hb0 (by simp) (overNum _ _ hl)
end Go.Proofs.Ytjhbaplnkigifaa
