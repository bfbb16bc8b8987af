import Derived.Test.YtpclicimakgpdaaCfb
import Derived.Test.YtpclicimakgpdaaCOrd
import Derived.Test.YtpclicimakgpdaaCWalkA
import Derived.Maps.OwnSet
import Derived.Maps.OwnOps
import Derived.Maps.Views
import Derived.Sort.KeysCollected
/-! cursor: what a reader makes of records, as plain lists; the map of pairs. -/
namespace Go.Proofs.Ytpclicimakgpdaa
open Go.RowKit Go.Maps Plain
set_option linter.unusedVariables false
set_option linter.unusedSimpArgs false

abbrev kb (s : ByteArray) : List UInt8 := s.data.toList
theorem kb_inj {s t : ByteArray} (h : kb s = kb t) : s = t := WideShapes.bytes_inj h
def insP (x : Pp) : List Pp → List Pp
  | [] => [x]
  | y :: r => if (Lit.string (kb x.key)).before (.string (kb y.key)) then x :: y :: r else y :: insP x r
def delP (L : List Pp) (k : List UInt8) : List Pp := L.filter fun p => !(kb p.key == k)
def layP (L : List Pp) (p : Pp) : List Pp := insP p (delP L (kb p.key))
def lookP (L : List Pp) (k : List UInt8) : Option Pp := L.find? fun p => kb p.key == k
def pairOf (r : Rc) : Pp := ⟨r.key, r.val, r.o, r.t⟩
def stepF (L : List Pp) (r : Rc) : List Pp := if r.k = 2 then delP L (kb r.key) else layP L (pairOf r)
/-- What is made of the first pairs. -/
def startP (st : List Pp) (n : Nat) : List Pp := (st.take n).foldl layP []
/-- .. and of the first records. -/
def recsP (st : List Pp) (rs : List Rc) (n : Nat) : List Pp := (rs.take n).foldl stepF (startP st st.length)
def foldP (st : List Pp) (rs : List Rc) : List Pp := recsP st rs rs.length
theorem take_succ' {α : Type} (l : List α) (n : Nat) (d : α) (h : n < l.length) : l.take (n + 1) = l.take n ++ [l.getD n d] := by
  rw [List.take_add_one, List.getElem?_eq_getElem h]
  simp [List.getD, List.getElem?_eq_getElem h]
theorem startP_succ {st : List Pp} {n : Nat} (h : n < st.length) : startP st (n + 1) = layP (startP st n) (st.getD n Pp.zero) := by
  unfold startP
  rw [take_succ' st n Pp.zero h, List.foldl_append]
  rfl
theorem recsP_succ {st : List Pp} {rs : List Rc} {n : Nat} (h : n < rs.length) : recsP st rs (n + 1) = stepF (recsP st rs n) (rs.getD n Rc.none) := by
  unfold recsP
  rw [take_succ' rs n Rc.none h, List.foldl_append]
  rfl
theorem startP_zero (st : List Pp) : startP st 0 = [] := rfl
theorem recsP_zero (st : List Pp) (rs : List Rc) : recsP st rs 0 = startP st st.length := rfl

theorem mem_insP {x p : Pp} : ∀ {L : List Pp}, p ∈ insP x L → p = x ∨ p ∈ L
  | [], h => by simpa [insP] using h
  | y :: r, h => by
    unfold insP at h
    split at h
    · simpa using h
    · rcases List.mem_cons.mp h with rfl | h
      · exact .inr (List.mem_cons_self ..)
      · rcases mem_insP h with h | h
        · exact .inl h
        · exact .inr (List.mem_cons_of_mem _ h)
theorem len_insP (x : Pp) : ∀ L : List Pp, (insP x L).length = L.length + 1
  | [] => rfl
  | y :: r => by
    unfold insP
    split
    · rfl
    · rw [List.length_cons, len_insP x r, List.length_cons]
theorem mem_delP {L : List Pp} {k : List UInt8} {p : Pp} (h : p ∈ delP L k) : p ∈ L := (List.mem_filter.mp h).1
theorem len_delP (L : List Pp) (k : List UInt8) : (delP L k).length ≤ L.length := List.length_filter_le _ _
theorem len_layP (L : List Pp) (p : Pp) : (layP L p).length ≤ L.length + 1 := by
  unfold layP
  rw [len_insP]
  have := len_delP L (kb p.key)
  omega
theorem startP_len (st : List Pp) : ∀ n, n ≤ st.length → (startP st n).length ≤ n
  | 0, _ => by simp [startP]
  | n + 1, h => by
    rw [startP_succ h]
    have := len_layP (startP st n) (st.getD n Pp.zero)
    have := startP_len st n (by omega)
    omega
theorem stepF_len (L : List Pp) (r : Rc) : (stepF L r).length ≤ L.length + 1 := by
  unfold stepF
  split
  · have := len_delP L (kb r.key); omega
  · exact len_layP _ _
theorem recsP_len (st : List Pp) (rs : List Rc) : ∀ n, n ≤ rs.length → (recsP st rs n).length ≤ st.length + n
  | 0, _ => by rw [recsP_zero]; exact startP_len st _ (Nat.le_refl _)
  | n + 1, h => by
    rw [recsP_succ h]
    have := stepF_len (recsP st rs n) (rs.getD n Rc.none)
    have := recsP_len st rs n (by omega)
    omega
theorem getD_ok {α : Type} {l : List α} {n : Nat} {d : α} {P : α → Prop} (h : ∀ x ∈ l, P x) (hn : n < l.length) : P (l.getD n d) := by
  rw [List.getD_eq_getElem?_getD, List.getElem?_eq_getElem hn]
  exact h _ (List.getElem_mem hn)
theorem startP_ok {st : List Pp} (h : ∀ x ∈ st, x.Ok) : ∀ n, n ≤ st.length → ∀ x ∈ startP st n, x.Ok
  | 0, _ => by simp [startP]
  | n + 1, hn => fun x hx => by
    rw [startP_succ hn] at hx
    rcases mem_insP hx with rfl | hx
    · exact getD_ok h hn
    · exact startP_ok h n (by omega) x (mem_delP hx)
theorem pairOf_ok {r : Rc} (h : r.Ok) : (pairOf r).Ok := ⟨h.key, h.val, h.o, h.t⟩
theorem recsP_ok {st : List Pp} {rs : List Rc} (h : ∀ x ∈ st, x.Ok) (hr : ∀ x ∈ rs, x.Ok) : ∀ n, n ≤ rs.length → ∀ x ∈ recsP st rs n, x.Ok
  | 0, _ => by rw [recsP_zero]; exact startP_ok h _ (Nat.le_refl _)
  | n + 1, hn => fun x hx => by
    rw [recsP_succ hn] at hx
    unfold stepF at hx
    split at hx
    · exact recsP_ok h hr n (by omega) x (mem_delP hx)
    · rcases mem_insP hx with rfl | hx
      · exact pairOf_ok (getD_ok hr hn)
      · exact recsP_ok h hr n (by omega) x (mem_delP hx)

/-- The keys rise. -/
def UpP (L : List Pp) : Prop := L.Pairwise (fun p q => bytesBefore (kb p.key) (kb q.key) = true)
theorem up_delP {L : List Pp} (h : UpP L) (k : List UInt8) : UpP (delP L k) := List.Pairwise.filter _ h
theorem up_insP {x : Pp} : ∀ {L : List Pp}, UpP L → (∀ p ∈ L, kb p.key ≠ kb x.key) → UpP (insP x L)
  | [], h, hn => by simp [UpP, insP]
  | y :: r, h, hn => by
    unfold insP
    have h1 := List.pairwise_cons.mp h
    by_cases e : (Lit.string (kb x.key)).before (.string (kb y.key)) = true
    · rw [if_pos e]
      refine List.pairwise_cons.mpr ⟨fun z hz => ?_, h⟩
      rcases List.mem_cons.mp hz with rfl | hz
      · exact e
      · exact WideShapes.bytes_trans _ _ _ e (h1.1 z hz)
    · rw [if_neg e]
      refine List.pairwise_cons.mpr ⟨fun z hz => ?_, up_insP h1.2 (fun p hp => hn p (List.mem_cons_of_mem _ hp))⟩
      rcases mem_insP hz with rfl | hz
      · rcases WideAt.bytes_total (kb y.key) (kb z.key) (hn y (List.mem_cons_self ..)) with h2 | h2
        · exact h2
        · exact (e h2).elim
      · exact h1.1 z hz
theorem up_layP {L : List Pp} (h : UpP L) (p : Pp) : UpP (layP L p) := up_insP (up_delP h _) (fun q hq => by
  have := (List.mem_filter.mp hq).2
  simpa using this)
theorem startP_up (st : List Pp) : ∀ n, n ≤ st.length → UpP (startP st n)
  | 0, _ => List.Pairwise.nil
  | n + 1, h => by rw [startP_succ h]; exact up_layP (startP_up st n (by omega)) _
theorem recsP_up (st : List Pp) (rs : List Rc) : ∀ n, n ≤ rs.length → UpP (recsP st rs n)
  | 0, _ => startP_up st _ (Nat.le_refl _)
  | n + 1, h => by
    rw [recsP_succ h]
    unfold stepF
    split
    · exact up_delP (recsP_up st rs n (by omega)) _
    · exact up_layP (recsP_up st rs n (by omega)) _
theorem before_less : ∀ a b : List UInt8, bytesBefore a b = Op.bytesLess a b
  | [], [] => rfl
  | [], _ :: _ => rfl
  | _ :: _, [] => rfl
  | x :: a, y :: b => by
    have ih := before_less a b
    simp only [bytesBefore, Op.bytesLess, ih]
theorem before_cmp (a b : List UInt8) : bytesBefore a b = decide (cmpL a b < 0) := by rw [before_less, cmpL_less]
theorem before_lt : ∀ a b : List UInt8, bytesBefore a b = true → a < b := by
  intro a
  induction a with
  | nil =>
    intro b h
    cases b with
    | nil => simp [bytesBefore] at h
    | cons y b => exact List.nil_lt_cons ..
  | cons x a ih =>
    intro b h
    cases b with
    | nil => simp [bytesBefore] at h
    | cons y b =>
      rw [List.cons_lt_cons_iff]
      simp only [bytesBefore] at h
      by_cases h1 : x < y
      · exact .inl h1
      · right
        simp [h1] at h
        exact ⟨h.1, ih b h.2⟩
theorem before_le {a b : List UInt8} (h : bytesBefore a b = true) : a ≤ b := List.le_of_lt (before_lt a b h)
theorem up_sorted {L : List Pp} {ss : List (List UInt8)} (h : UpP L) (hp : ss.Perm (L.map fun p => kb p.key)) : ss.mergeSort (fun x y => decide (x ≤ y)) = L.map fun p => kb p.key := by
  have h1 := List.pairwise_mergeSort (le := fun x y : List UInt8 => decide (x ≤ y)) (fun a b c h k => by simp only [decide_eq_true_eq] at *; exact List.le_trans h k)
    (fun a b => by rw [Bool.or_eq_true, decide_eq_true_eq, decide_eq_true_eq]; exact List.le_total a b) ss
  refine List.Perm.eq_of_pairwise (le := fun x y : List UInt8 => x ≤ y) (fun a b _ _ h k => List.le_antisymm h k) (h1.imp fun h => by simpa using h) (List.pairwise_map.mpr (h.imp fun h => before_le h)) ((List.mergeSort_perm _ _).trans hp)
theorem up_look {L : List Pp} (h : UpP L) {n : Nat} (hn : n < L.length) : lookP L (kb (L.getD n Pp.zero).key) = some (L.getD n Pp.zero) := by
  unfold lookP
  induction L generalizing n with
  | nil => simp at hn
  | cons y r ih =>
    have h1 := List.pairwise_cons.mp h
    cases n with
    | zero => simp
    | succ n =>
      have hn' : n < r.length := by simpa using hn
      have hm : r.getD n Pp.zero ∈ r := by
        rw [List.getD_eq_getElem?_getD, List.getElem?_eq_getElem hn']
        exact List.getElem_mem hn'
      have hb := h1.1 _ hm
      have hne : ¬ (kb y.key == kb (r.getD n Pp.zero).key) = true := fun e => by
        have e : kb y.key = kb (r.getD n Pp.zero).key := by simpa using e
        rw [e, WideAt.bytes_irrefl] at hb
        cases hb
      show List.find? _ (y :: r) = _
      rw [show (y :: r).getD (n + 1) Pp.zero = r.getD n Pp.zero from by simp]
      rw [List.find?_cons_of_neg (by exact hne)]
      exact ih h1.2 hn'

def Pp.d (p : Pp) : DataW Unit := .agg [.lit (.string (kb p.key)), .lit (.string (kb p.val)), .lit (.int .i64 p.off), .lit (.int .i64 p.time)]
/-- How a pair in the map reads. -/
def Rq (v : Value) : Option (DataW Unit × List MemPlace) := match v with
  | .agg ⟨[.string a, .string b, .int .i64 c, .int .i64 d]⟩ => some (Pp.d ⟨a, b, c, d⟩, [])
  | _ => none
theorem Rq_agg (p : Pp) : Rq p.agg = some (p.d, []) := rfl
theorem Rq_inv {v : Value} {y : DataW Unit × List MemPlace} (h : Rq v = some y) : ∃ p : Pp, v = p.agg ∧ y = (p.d, []) := by
  unfold Rq at h
  split at h
  · simp at h; exact ⟨⟨_, _, _, _⟩, rfl, h.symm⟩
  · simp at h
theorem Pp.d_inj {p q : Pp} (h : p.d = q.d) : p = q := by
  obtain ⟨a, b, c, d⟩ := p
  obtain ⟨a', b', c', d'⟩ := q
  unfold Pp.d at h
  injection h with h
  injection h with h1 h
  injection h with h2 h
  injection h with h3 h
  injection h with h4 _
  injection h1 with h1; injection h1 with h1
  injection h2 with h2; injection h2 with h2
  injection h3 with h3; injection h3 with _ h3
  injection h4 with h4; injection h4 with _ h4
  obtain rfl := kb_inj h1
  obtain rfl := kb_inj h2
  subst h3 h4
  rfl
def dentQ (p : Pp) : Lit × DataW Unit := (.string (kb p.key), p.d)
def toQ (L : List Pp) : DataW Unit := .map (L.map dentQ)
theorem same_strP (a b : List UInt8) : (Lit.string a).sameKey (.string b) = (a == b) := rfl
theorem toQ_insert (x : Pp) : ∀ L : List Pp, DataW.insert (dentQ x) (L.map dentQ) = (insP x L).map dentQ
  | [] => rfl
  | y :: r => by
    simp only [List.map_cons, DataW.insert, insP]
    by_cases h : (Lit.string (kb x.key)).before (.string (kb y.key)) = true
    · have h' : (dentQ x).1.before (dentQ y).1 = true := h
      rw [if_pos h', if_pos h]; rfl
    · have h' : ¬ (dentQ x).1.before (dentQ y).1 = true := h
      rw [if_neg h', if_neg h, toQ_insert x r]; rfl
theorem toQ_filter (L : List Pp) (k : List UInt8) : (L.map dentQ).filter (fun p => !p.1.sameKey (.string k)) = (delP L k).map dentQ := by
  unfold delP
  rw [List.filter_map]
  rfl
theorem toQ_put (L : List Pp) (p : Pp) : (toQ L).put (.string (kb p.key)) p.d = toQ (layP L p) := by
  unfold toQ layP
  rw [← toQ_insert, ← toQ_filter]
  rfl
theorem toQ_del (L : List Pp) (k : List UInt8) : (toQ L).del (.string k) = toQ (delP L k) := by
  unfold toQ
  rw [← toQ_filter]
  rfl
theorem toQ_at (L : List Pp) (k : List UInt8) (zd : DataW Unit) : (toQ L).atKey (.string k) zd = match lookP L k with
    | some p => p.d
    | none => zd := by
  unfold toQ DataW.atKey lookP
  simp only
  induction L with
  | nil => rfl
  | cons p L ih =>
    by_cases h : kb p.key == k
    · have h2 : (dentQ p).1.sameKey (.string k) = true := h
      rw [List.map_cons, List.find?_cons_of_pos (by exact h2), List.find?_cons_of_pos (by exact h)]
      rfl
    · have h2 : ¬ (dentQ p).1.sameKey (.string k) = true := h
      rw [List.map_cons, List.find?_cons_of_neg (by exact h2), List.find?_cons_of_neg (by exact h)]
      exact ih
theorem toQ_size (L : List Pp) : Maps.size (toQ L) = L.length := by simp [toQ, Maps.size_eq]
theorem toQ_keys (L : List Pp) : strKeys (toQ L) = L.map fun p => kb p.key := by
  show (L.map dentQ).map (fun p => strOf p.1) = _
  rw [List.map_map]
  rfl
theorem tightQ {w : World} {b n : Nat} {D : DataW Unit} (h : w.ownsMap Try.prog 9 Rq b n D) : w.ownsMap Try.prog 9 Rq b (Maps.size D) D := by
  obtain ⟨es, clock, hb, F, hs, rfl⟩ := h
  exact ⟨es, clock, hb, F, by simp [Maps.size, length_sorted], rfl⟩
/-- Block b is the map of the pairs L. -/
def MapQ (w : World) (b : Nat) (L : List Pp) : Prop := w.ownsMap Try.prog 9 Rq b L.length (toQ L)
theorem keyed9 : Keyed Try.prog 9 := string_keyed Try.underlying9
theorem MapQ.lt {w : World} {b : Nat} {L : List Pp} (h : MapQ w b L) : b < w.heap.size := World.ownsMap.lt h
theorem MapQ.of_block {w w' : World} {b : Nat} {L : List Pp} (h : MapQ w b L) (hb : w'.heap[b]? = w.heap[b]?) : MapQ w' b L := by
  obtain ⟨es, clock, h1, h2⟩ := h
  exact ⟨es, clock, hb.trans h1, h2⟩
theorem MapQ.later {w w' : World} {b : Nat} {L : List Pp} (h : MapQ w b L) (hb : Below w.heap.size w w') : MapQ w' b L := h.of_block (hb.block b h.lt)
theorem MapQ.made (w : World) : MapQ (w.alloc (.map #[] 0)) w.heap.size [] := World.ownsMap_made w _ _ _
theorem MapQ.obj {w : World} {b : Nat} {L : List Pp} (h : MapQ w b L) : ∃ es c, w.heap[b]? = some (.map es c) := by
  obtain ⟨es, clock, h1, _⟩ := h
  exact ⟨_, _, h1⟩
theorem key_strP {s : ByteArray} (hs : s.size ≤ maxLen) : keyOf Try.prog 9 (.string s) = some (.string (kb s)) := Go.WideMaps.keyOf_string_mk Try.underlying9 hs
end Go.Proofs.Ytpclicimakgpdaa
