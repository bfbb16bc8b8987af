import Derived.Test.YthfnbcicpcbgjaaKgb
import Derived.Test.YthfnbcicpcbgjaaKfc
/-! keydir: two dirs that are noted in. -/
namespace Go.Proofs.Ythfnbcicpcbgjaa
open Go.RowKit Plain
set_option linter.unusedVariables false
set_option linter.unusedSimpArgs false

/-- The item of the key number i. -/
def itemK (ks : List ByteArray) (i : Nat) : Kr := ⟨ks.getD i ⟨#[]⟩, (i : Int) * 3, 0, 0, i, 0, false⟩
def itemsK (ks : List ByteArray) (n : Nat) : List Kr := (List.range n).map (itemK ks)
theorem itemsK_len (ks : List ByteArray) (n : Nat) : (itemsK ks n).length = n := by simp [itemsK]
theorem itemsK_succ (ks : List ByteArray) (n : Nat) : itemsK ks (n + 1) = itemsK ks n ++ [itemK ks n] := by simp [itemsK, List.range_succ]
theorem itemsK_getD (ks : List ByteArray) {n m : Nat} (h : m < n) : (itemsK ks n).getD m Kr.zero = itemK ks m := by
  rw [List.getD_eq_getElem?_getD, itemsK, List.getElem?_map, List.getElem?_range h]
  rfl
theorem itemsK_mem {ks : List ByteArray} {n : Nat} {x : Kr} : x ∈ itemsK ks n ↔ ∃ i, i < n ∧ x = itemK ks i := by
  simp only [itemsK, List.mem_map, List.mem_range]
  exact ⟨fun ⟨i, h, e⟩ => ⟨i, h, e.symm⟩, fun ⟨i, h, e⟩ => ⟨i, h, e.symm⟩⟩
theorem itemsK_off {ks : List ByteArray} {n : Nat} : ∀ x ∈ itemsK ks n, ∀ y ∈ itemsK ks n, x.off = y.off → x = y := fun x hx y hy e => by
  obtain ⟨i, _, rfl⟩ := itemsK_mem.mp hx
  obtain ⟨j, _, rfl⟩ := itemsK_mem.mp hy
  have e' : (i : Int) = (j : Int) := e
  have : i = j := by omega
  rw [this]
theorem itemsK_ok {ks : List ByteArray} {n : Nat} (hn : n ≤ 10000000) (hk : ∀ m, m < n → (ks.getD m ⟨#[]⟩).size ≤ maxLen) : ∀ x ∈ itemsK ks n, x.Ok := fun x hx => by
  obtain ⟨i, hi, rfl⟩ := itemsK_mem.mp hx
  refine ⟨hk i hi, ?_, ?_, ?_, ?_, ?_, trivial⟩ <;> simp [I64, itemK] <;> omega
/-- An item behind all that are noted is noted, if its key is one. -/
theorem note_next {ks : List ByteArray} {m : Nat} {l : List Ke} (h : NotedBy (itemsK ks m) l) : noteB (itemK ks m).key (itemK ks m).ke.e l = true := by
  obtain ⟨o, ho, e⟩ := h.2 (itemK ks m).key
  unfold noteB
  rw [e]
  cases o with
  | none => rfl
  | some r =>
    obtain ⟨i, hi, rfl⟩ := itemsK_mem.mp ho.1
    have h1 : ¬ (m : Int) ≤ (i : Int) := by omega
    have h2 : (itemK ks m).ke.e.off = (m : Int) := rfl
    have h3 : (gotE ((some (itemK ks i)).map Kr.ke)).off = (i : Int) := rfl
    rw [h2, h3]
    simp [h1]
theorem NotedBy.mem {S T : List Kr} {l : List Ke} (h : NotedBy S l) (hm : ∀ x, x ∈ S ↔ x ∈ T) : NotedBy T l := ⟨h.1, fun key => by
  obtain ⟨o, ho, e⟩ := h.2 key
  exact ⟨o, ho.mem hm, e⟩⟩
theorem NotedBy.next {ks : List ByteArray} {m : Nat} {l : List Ke} (h : NotedBy (itemsK ks m) l) : NotedBy (itemsK ks (m + 1)) (noteK l (itemK ks m)) :=
  (h.note (itemK ks m)).mem fun x => by rw [itemsK_succ]; simp [or_comm]
/-- What stands of a key behind all items is the last item with that key. -/
theorem NotedBy.last {ks : List ByteArray} {n : Nat} {l : List Ke} (h : NotedBy (itemsK ks n) l) (key : ByteArray) : findL key l = (lastK key (itemsK ks n)).map Kr.ke := by
  obtain ⟨o, ho, e⟩ := h.2 key
  rw [e]
  congr 1
  unfold lastK
  by_cases hk : okKey key = true
  · rw [if_pos hk]
    suffices hs : Best key (itemsK ks n) (lastM key (itemsK ks n)) from ho.unique hs itemsK_off
    clear ho e h
    induction n with
    | zero => exact fun x hx => by simp [itemsK] at hx
    | succ n ih =>
      rw [itemsK_succ, lastM_snoc]
      by_cases hc : kc key (itemK ks n).key = 0
      · rw [if_pos hc]
        have hce := kc_zero hc
        refine ⟨by simp, by rw [← hce]; exact hk, hce.symm, fun x hx hxo hxk => ?_⟩
        rw [← itemsK_succ] at hx
        obtain ⟨i, hi, rfl⟩ := itemsK_mem.mp hx
        show (i : Int) ≤ (n : Int)
        omega
      · rw [if_neg hc]
        have hne : (itemK ks n).key ≠ key := fun e => hc (by rw [e]; exact kc_self _)
        revert ih
        cases lastM key (itemsK ks n) with
        | none =>
          intro ih x hx hxo
          simp at hx
          rcases hx with hx | hx
          · exact ih x hx hxo
          · rw [hx]; exact hne
        | some r =>
          intro ih
          refine ⟨by simp [ih.1], ih.2.1, ih.2.2.1, fun x hx hxo hxk => ?_⟩
          simp at hx
          rcases hx with hx | hx
          · exact ih.2.2.2 x hx hxo hxk
          · rw [hx] at hxk; exact absurd hxk hne
  · rw [if_neg hk]
    cases o with
    | none => rfl
    | some r => exact absurd (by rw [← ho.2.2.1]; exact ho.2.1) hk

def ND (W : World) (g : Nat) : Prop := g = W.heap.size ∨ g = W.heap.size + 1
/-- Two new dirs behind the world W. -/
structure Nd (W u : World) (la lb : List Ke) : Prop where
  bel : Below W.heap.size W u
  siz : W.heap.size + 2 ≤ u.heap.size
  a : DirAt (ND W) u W.heap.size la
  b : DirAt (ND W) u (W.heap.size + 1) lb
theorem Nd.later {W u u' : World} {la lb : List Ke} (h : Nd W u la lb) (hb : Below u.heap.size u u') : Nd W u' la lb :=
  ⟨below_step' h.bel hb, Nat.le_trans h.siz hb.size, h.a.later hb, h.b.later hb⟩
theorem Nd.fresh {W u : World} {la lb : List Ke} (h : Nd W u la lb) : ∀ g, u.heap.size ≤ g → ¬ ND W g := fun g hg hd => by
  have := h.siz
  rcases hd with hd | hd <;> omega
theorem Nd.noteA {W u : World} {la lb : List Ke} {S : List Kr} (h : Nd W u la lb) (hn : NotedBy S la) (x : Kr) (hx : x.key.size ≤ maxLen) (hl : la.length ≤ 1125899906842600) :
    Calls Try.prog 10 #[.pointer (some ⟨W.heap.size, 0, none⟩), .string x.key, x.ke.e.v] u fun e w' => e = .returned (.tuple #[.bool (okKey x.key && noteB x.key x.ke.e la), .int .i64 (if okKey x.key then 0 else 42)]) ∧ Nd W w' (noteK la x) lb :=
  (noteAny x u h.fresh h.a hx hl (fun hk => hn.bad hk)).mono fun e w' ⟨h1, h2, h3⟩ => ⟨h1, ⟨below_grown h.bel h2 (Nat.le_refl _), Nat.le_trans h.siz h2.size, h3, h.b.other h2 (.inl rfl) (by omega)⟩⟩
theorem Nd.noteB {W u : World} {la lb : List Ke} {S : List Kr} (h : Nd W u la lb) (hn : NotedBy S lb) (x : Kr) (hx : x.key.size ≤ maxLen) (hl : lb.length ≤ 1125899906842600) :
    Calls Try.prog 10 #[.pointer (some ⟨W.heap.size + 1, 0, none⟩), .string x.key, x.ke.e.v] u fun e w' => (∃ b z, e = .returned (.tuple #[.bool b, .int .i64 z])) ∧ Nd W w' la (noteK lb x) ∧ u.grownBy w' (some (W.heap.size + 1)) :=
  (noteAny x u h.fresh h.b hx hl (fun hk => hn.bad hk)).mono fun e w' ⟨h1, h2, h3⟩ => ⟨⟨_, _, h1⟩, ⟨below_grown h.bel h2 (by omega), Nat.le_trans h.siz h2.size, h.a.other h2 (.inr rfl) (by omega), h3⟩, h2⟩
end Go.Proofs.Ythfnbcicpcbgjaa
