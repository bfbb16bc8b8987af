import Derived.Test.YtgffncbmchimdaaSfK
import Derived.Laws.Small
/-! For Read: parts of a file's bytes; what Read answers. -/
namespace Go.Proofs.Ytgffncbmchimdaa
open Go.RowKit Go.Maps Plain
set_option linter.unusedVariables false
set_option linter.unusedSimpArgs false

theorem wpList_minN {ops : Array Oper} {rest : List Oper} {o : Oper} {a : Act} {Q : Exit → Act → World → Prop} {w : World} (hgd : o.guard = none) (s x : Operand) (t tx : TypeId) (z y m : Int)
    (ho : o.op = .call { callee := .builtin .min, args := #[s, x], argTypes := #[t, tx] }) (hs : a.eval s = .int .i64 z) (hx : a.eval x = .int .i64 y) (hm : (if y < z then y else z) = m)
    (h : wpList Try.prog ops Q rest (a.put o.dst (.int .i64 m)) w) : wpList Try.prog ops Q (o :: rest) a w :=
  wpList_plain hgd fun _ hK => by
    have hr := run_min_int2 (P := Try.prog) (w := w) #[t, tx] o.type .i64 .i64 z y
    rw [hm] at hr
    unfold Oper.wp execOp
    simp only [ho, resolve, invoke, builtin, Sem.run_bind, Sem.run_pure, Result.andThen_ok, List.map_toArray, List.map_cons, List.map_nil, hs, hx, hr]
    exact hK _ _ h
theorem St.fown {S : Nat → Prop} {w w1 : World} {d G : Nat} {k : Dk} (h : St S w d k w1) (hG : k.live G) : ∃ vs rs, w1.cell? ⟨G, 0, none⟩ = some vs ∧ Own w1 vs (k.file G).seen rs := by
  obtain ⟨ms, md, vc, rc, Sf, hm⟩ := h.at
  obtain ⟨vs, vd, vc, rs, rd, rc, vals, blk, hf, _⟩ := hm.files G hG
  obtain ⟨c0, _⟩ := fcells hf.blkG
  exact ⟨vs, rs, c0, hf.seen⟩
/-- A part of a row of bytes. -/
theorem own_part {w : World} {g A M N c : Nat} {l : List Nat} {r : Option Nat} (h : Own w (.slice (some ⟨g, 0, none⟩) N c) l r) (hA : A ≤ N) (m : Nat) (hm : m = min M (N - A)) : BytesAt w (.slice (some ⟨g, A, none⟩) m (c - A)) ((l.drop A).take M) := by
  have hl := own_len h
  obtain ⟨a', cap', e, h1, h2, h3, h4⟩ := h.bytes
  simp only [Value.slice.injEq] at e
  obtain ⟨rfl, e2, rfl⟩ := e
  have hlen : ((l.drop A).take M).length = m := by rw [List.length_take, List.length_drop]; omega
  refine ⟨_, c - A, by rw [hlen], by rw [hlen]; omega, by omega, fun x hx => h3 x (List.mem_of_mem_drop (List.mem_of_mem_take hx)), fun hne => ⟨g, A, rfl, fun j hj => ?_⟩⟩
  obtain ⟨b', off', e, h5⟩ := h4 (by rintro rfl; simp at hne)
  simp only [Option.some.injEq, Addr.mk.injEq] at e
  obtain ⟨rfl, rfl, _⟩ := e
  rw [hlen] at hj
  have h6 := h5 (A + j) (by omega)
  rw [Nat.zero_add] at h6
  rw [h6]
  simp only [List.getD_eq_getElem?_getD]
  rw [List.getElem?_take_of_lt (by omega), List.getElem?_drop]
theorem own_end {w : World} {g A M N c : Nat} {l : List Nat} {r : Option Nat} (h : Own w (.slice (some ⟨g, 0, none⟩) N c) l r) (hA : c ≤ A) : BytesAt w (.slice (some ⟨g, 0, none⟩) 0 0) ((l.drop A).take M) := by
  have hl := own_len h
  obtain ⟨q1, _⟩ := own_cap h
  have e : (l.drop A).take M = [] := by rw [List.drop_eq_nil_of_le (by omega)]; simp
  rw [e]
  exact ⟨_, 0, rfl, by simp, by simp, by simp, by simp⟩

/-- What Read answers. -/
def rdB (k : Dk) (s : ByteArray) (A M : Nat) : List Nat := (look k.L s.data.toList).elim [] fun G => ((k.file G).seen.drop A).take M
def RdPost (S : Nat → Prop) (d : Nat) (k : Dk) (w : World) (l : List Nat) (w1 : World) (e : Ending) (w' : World) : Prop := ∃ a n c r, e = .returned (.tuple #[.slice a n c, .int .i64 0]) ∧ Own w' (.slice a n c) l r ∧ (∀ g, r = some g → w1.heap.size ≤ g) ∧ Below w1.heap.size w1 w' ∧ St S w d k w'

end Go.Proofs.Ytgffncbmchimdaa
