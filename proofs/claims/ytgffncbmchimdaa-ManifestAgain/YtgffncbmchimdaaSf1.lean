import Derived.Test.YtgffncbmchimdaaSf0
import Derived.Maps.OwnSet
import Derived.Maps.OwnOps
import Derived.Maps.Views
import Derived.Sort.KeysCollected
/-! A directory: a map from names to pointers. -/
namespace Go.Proofs.Ytgffncbmchimdaa
open Go.RowKit Go.Maps Plain
set_option linter.unusedVariables false

/-- A name's bytes. -/
abbrev Nm := List UInt8
/-- How a pointer in the directory reads: as its block's number. -/
def Rp (v : Value) : Option (DataW Unit × List MemPlace) := match v with
  | .pointer none => some (.nil, [])
  | .pointer (some ⟨g, 0, none⟩) => some (.lit (.int .i64 (g : Int)), [])
  | _ => none
theorem Rp_inv {v : Value} {d : DataW Unit} {ps : List MemPlace} (h : Rp v = some (d, ps)) : (v = .pointer none ∧ d = .nil) ∨ ∃ g : Nat, v = .pointer (some ⟨g, 0, none⟩) ∧ d = .lit (.int .i64 (g : Int)) := by
  unfold Rp at h
  split at h
  · simp at h; exact .inl ⟨rfl, h.1.symm⟩
  · simp at h; exact .inr ⟨_, rfl, h.1.symm⟩
  · simp at h
/-- Names and the files that they lead to. -/
abbrev Dir := List (Nm × Nat)
def dent (p : Nm × Nat) : Lit × DataW Unit := (.string p.1, .lit (.int .i64 (p.2 : Int)))
def toD (L : Dir) : DataW Unit := .map (L.map dent)
def look (L : Dir) (k : Nm) : Option Nat := (L.find? fun p => p.1 == k).map (·.2)
def ins (x : Nm × Nat) : Dir → Dir
  | [] => [x]
  | y :: r => if (Lit.string x.1).before (.string y.1) then x :: y :: r else y :: ins x r
def del (L : Dir) (k : Nm) : Dir := L.filter fun p => !(p.1 == k)
def put (L : Dir) (k : Nm) (g : Nat) : Dir := ins (k, g) (del L k)
theorem same_str (a b : Nm) : (Lit.string a).sameKey (.string b) = (a == b) := rfl
theorem toD_insert (x : Nm × Nat) : ∀ L : Dir, DataW.insert (dent x) (L.map dent) = (ins x L).map dent
  | [] => rfl
  | y :: r => by
    simp only [List.map_cons, DataW.insert, ins]
    by_cases h : (Lit.string x.1).before (.string y.1) = true
    · have h' : (dent x).1.before (dent y).1 = true := h
      rw [if_pos h', if_pos h]; rfl
    · have h' : ¬ (dent x).1.before (dent y).1 = true := h
      rw [if_neg h', if_neg h, toD_insert x r]; rfl
theorem toD_filter (L : Dir) (k : Nm) : (L.map dent).filter (fun p => !p.1.sameKey (.string k)) = (del L k).map dent := by
  unfold del
  rw [List.filter_map]
  rfl
theorem toD_put (L : Dir) (k : Nm) (g : Nat) : (toD L).put (.string k) (.lit (.int .i64 (g : Int))) = toD (put L k g) := by
  unfold toD put
  rw [← toD_insert, ← toD_filter]
  rfl
theorem toD_del (L : Dir) (k : Nm) : (toD L).del (.string k) = toD (del L k) := by
  unfold toD
  rw [← toD_filter]
  rfl
theorem toD_at (L : Dir) (k : Nm) : (toD L).atKey (.string k) .nil = match look L k with
    | some g => .lit (.int .i64 (g : Int))
    | none => .nil := by
  unfold toD DataW.atKey look
  simp only
  induction L with
  | nil => rfl
  | cons p L ih =>
    by_cases h : p.1 == k
    · rw [List.map_cons, List.find?_cons_of_pos (by exact h), List.find?_cons_of_pos (by exact h)]
      rfl
    · rw [List.map_cons, List.find?_cons_of_neg (by exact h), List.find?_cons_of_neg (by exact h)]
      exact ih
theorem toD_size (L : Dir) : Maps.size (toD L) = L.length := by simp [toD, Maps.size_eq]
theorem toD_keys (L : Dir) : strKeys (toD L) = L.map (·.1) := by
  show (L.map dent).map (fun p => strOf p.1) = _
  rw [List.map_map]
  rfl
theorem tight {w : World} {b n : Nat} {D : DataW Unit} (h : w.ownsMap Try.prog 9 Rp b n D) : w.ownsMap Try.prog 9 Rp b (Maps.size D) D := by
  obtain ⟨es, clock, hb, F, hs, rfl⟩ := h
  exact ⟨es, clock, hb, F, by simp [Maps.size, length_sorted], rfl⟩

/-- Block b is the directory L. -/
def MapAt (w : World) (b : Nat) (L : Dir) : Prop := w.ownsMap Try.prog 9 Rp b L.length (toD L)
theorem keyed9 : Keyed Try.prog 9 := string_keyed Try.underlying9
theorem MapAt.lt {w : World} {b : Nat} {L : Dir} (h : MapAt w b L) : b < w.heap.size := World.ownsMap.lt h
theorem MapAt.of_block {w w' : World} {b : Nat} {L : Dir} (h : MapAt w b L) (hb : w'.heap[b]? = w.heap[b]?) : MapAt w' b L := by
  obtain ⟨es, clock, h1, h2⟩ := h
  exact ⟨es, clock, hb.trans h1, h2⟩
theorem MapAt.made (w : World) : MapAt (w.alloc (.map #[] 0)) w.heap.size [] := World.ownsMap_made w _ _ _
theorem MapAt.nodup {w : World} {b : Nat} {L : Dir} (h : MapAt w b L) : (L.map (·.1)).Nodup := by
  obtain ⟨es, e, hp⟩ := World.ownsMap.tidy h keyed9
  have he : es = L.map dent := by
    unfold toD at e
    injection e with e
    exact e.symm
  subst he
  rw [List.pairwise_map] at hp
  rw [List.nodup_iff_pairwise_ne, List.pairwise_map]
  exact hp.imp (fun h e => h (by unfold dent; simp [e]))
theorem key_str (s : ByteArray) (hs : s.size ≤ maxLen) : keyOf Try.prog 9 (.string s) = some (.string s.data.toList) := Go.WideMaps.keyOf_string_mk Try.underlying9 hs
end Go.Proofs.Ytgffncbmchimdaa
