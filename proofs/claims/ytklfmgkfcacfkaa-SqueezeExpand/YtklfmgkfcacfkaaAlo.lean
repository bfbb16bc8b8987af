import Derived.Test.YtklfmgkfcacfkaaTok2
namespace Go.Proofs.Ytklfmgkfcacfkaa
open Go.RowKit Plain
set_option linter.unusedVariables false
set_option linter.unusedSimpArgs false
theorem zero46 : (Try.prog.info? 46).map (fun i => i.zero.map fun z => z.cells) = some (some (Array.replicate 6144 (.int .u16 0))) := by kernel_rfl

theorem wpList_alloc_tab {ops : Array Oper} {rest : List Oper} {o : Oper} {a : Act} {Q : Exit → Act → World → Prop} {w : World} (hgd : o.guard = none) (ho : o.op = .alloc 46)
    (h : ∀ Z : Array Value, Z = Array.replicate 6144 (.int .u16 0) → wpList Try.prog ops Q rest (a.put o.dst (.pointer (some ⟨w.heap.size, 0, none⟩))) (w.alloc (.cells Z 46))) : wpList Try.prog ops Q (o :: rest) a w :=
  wpList_plain hgd fun _ hK => by
    obtain ⟨i, hi, hzz⟩ := Option.map_eq_some_iff.1 zero46
    obtain ⟨z, hz, hzc⟩ := Option.map_eq_some_iff.1 hzz
    have h' := h z.cells hzc
    unfold Oper.wp execOp
    simp only [ho]
    simp [go_sem, zeroValue, typeInfo, hi, hz]
    exact hK _ _ h'

theorem TabAt.new (w : World) (Z : Array Value) (h : Z = Array.replicate 6144 (.int .u16 0)) : TabAt (w.alloc (.cells Z 46)) w.heap.size (fun _ => 0) (fun _ => 0) := by
  have hc : ∀ j, j < 6144 → (w.alloc (.cells Z 46)).cell? ⟨w.heap.size, j, none⟩ = some (.int .u16 0) := fun j hj => by
    rw [World.cell?_alloc_at _ _ _ _ rfl, h, Array.getElem?_replicate, if_pos hj]
  exact ⟨fun j hj => hc j (by omega), fun j hj => hc (2048 + j) (by omega), fun j hj => World.frozen?_alloc_at _ _ _ _ rfl⟩

/-- The tokens ts tell the first i bytes of the text, as the document asks. -/
def PreR (l : List Nat) : List Tk → Nat → Prop
  | [], i => i = 0
  | t :: rs, i => ∃ i0, PreR l rs i0 ∧ t.pick
      (fun _ b => (∀ g' b', rs.head? ≠ some (Tk.lit g' b')) ∧ b ≠ [] ∧ i0 + b.length ≤ l.length ∧ b = (l.drop i0).take b.length ∧ (∀ j, i0 ≤ j → j < i0 + b.length → Best l j 0 0) ∧ i = i0 + b.length)
      (fun d n => 5 ≤ n ∧ Best l i0 d n ∧ i = i0 + n)
def PreP (l : List Nat) (ts : List Tk) (i : Nat) : Prop := PreR l ts.reverse i

theorem PreP.nil {l : List Nat} : PreP l [] 0 := rfl
theorem PreP.lit {l : List Nat} {ts : List Tk} {i g : Nat} {b : List Nat} (h : PreP l ts i) (hlast : ∀ g' b', ts.getLast? ≠ some (.lit g' b')) (hb : b ≠ []) (hi : i + b.length ≤ l.length) (he : b = (l.drop i).take b.length) (hn : ∀ j, i ≤ j → j < i + b.length → Best l j 0 0) : PreP l (ts ++ [.lit g b]) (i + b.length) := by
  unfold PreP
  rw [List.reverse_append, List.reverse_singleton, List.singleton_append]
  exact ⟨i, h, fun g' b' => by rw [List.head?_reverse]; exact hlast g' b', hb, hi, he, hn, rfl⟩
theorem PreP.mat {l : List Nat} {ts : List Tk} {i d n : Nat} (h : PreP l ts i) (hn : 5 ≤ n) (hb : Best l i d n) : PreP l (ts ++ [.mat d n]) (i + n) := by
  unfold PreP
  rw [List.reverse_append, List.reverse_singleton, List.singleton_append]
  exact ⟨i, h, hn, hb, rfl⟩
theorem PreP.ind_rev {l : List Nat} {motive : List Tk → Nat → Prop} (nil : motive [] 0)
    (lit : ∀ (ts : List Tk) (i g : Nat) (b : List Nat), PreP l ts i → (∀ g' b', ts.getLast? ≠ some (.lit g' b')) → b ≠ [] → i + b.length ≤ l.length → b = (l.drop i).take b.length → (∀ j, i ≤ j → j < i + b.length → Best l j 0 0) → motive ts i → motive (ts ++ [.lit g b]) (i + b.length))
    (mat : ∀ (ts : List Tk) (i d n : Nat), PreP l ts i → 5 ≤ n → Best l i d n → motive ts i → motive (ts ++ [.mat d n]) (i + n)) :
    ∀ (rs : List Tk) (i : Nat), PreR l rs i → motive rs.reverse i
  | [], i, h => by
    have h0 : i = 0 := h
    subst h0
    exact nil
  | t :: rs, i, h => by
    obtain ⟨i0, h1, h2⟩ := h
    have ih := PreP.ind_rev nil lit mat rs i0 h1
    have hp : PreP l rs.reverse i0 := by unfold PreP; rw [List.reverse_reverse]; exact h1
    rw [List.reverse_cons]
    cases t using Tk.elim with
    | lit g b =>
      obtain ⟨a1, a2, a3, a4, a5, a6⟩ := h2
      subst a6
      exact lit _ i0 g b hp (fun g' b' => by rw [List.getLast?_reverse]; exact a1 g' b') a2 a3 a4 a5 ih
    | mat d n =>
      obtain ⟨a1, a2, a3⟩ := h2
      subst a3
      exact mat _ i0 d n hp a1 a2 ih
theorem PreP.ind {l : List Nat} {motive : (ts : List Tk) → (i : Nat) → PreP l ts i → Prop} (nil : motive [] 0 PreP.nil)
    (lit : ∀ {ts : List Tk} {i g : Nat} {b : List Nat} (h : PreP l ts i) (hlast : ∀ g' b', ts.getLast? ≠ some (.lit g' b')) (hb : b ≠ []) (hi : i + b.length ≤ l.length) (he : b = (l.drop i).take b.length) (hn : ∀ j, i ≤ j → j < i + b.length → Best l j 0 0) (ih : motive ts i h), motive (ts ++ [.lit g b]) (i + b.length) (PreP.lit h hlast hb hi he hn))
    (mat : ∀ {ts : List Tk} {i d n : Nat} (h : PreP l ts i) (hn : 5 ≤ n) (hb : Best l i d n) (ih : motive ts i h), motive (ts ++ [.mat d n]) (i + n) (PreP.mat h hn hb)) {ts : List Tk} {i : Nat} (h : PreP l ts i) : motive ts i h := by
  have key := PreP.ind_rev (l := l) (motive := fun ts i => ∃ h : PreP l ts i, motive ts i h) ⟨PreP.nil, nil⟩
    (fun ts i g b h a1 a2 a3 a4 a5 ⟨h', m⟩ => ⟨PreP.lit h a1 a2 a3 a4 a5, lit h a1 a2 a3 a4 a5 m⟩)
    (fun ts i d n h a1 a2 ⟨h', m⟩ => ⟨PreP.mat h a1 a2, mat h a1 a2 m⟩) ts.reverse i h
  rw [List.reverse_reverse] at key
  obtain ⟨_, m⟩ := key
  exact m

theorem PreP.le {l : List Nat} {ts : List Tk} {i : Nat} (h : PreP l ts i) : i ≤ l.length := by
  induction h using PreP.ind with
  | nil => omega
  | lit h hlast hb hi he hn ih => exact hi
  | mat h hn hb ih =>
    rcases hb with ⟨h0, _⟩ | ⟨_, _, h1, _⟩ <;> omega

theorem PreP.count {l : List Nat} {ts : List Tk} {i : Nat} (h : PreP l ts i) : ts.length ≤ i := by
  induction h using PreP.ind with
  | nil => simp
  | lit h hlast hb hi he hn ih =>
    have := List.length_pos_iff.mpr hb
    simp; omega
  | mat h hn hb ih => simp; omega

theorem PreP.sum {l : List Nat} {ts : List Tk} {i : Nat} (h : PreP l ts i) : i = (ts.map Tk.len).sum := by
  induction h using PreP.ind with
  | nil => rfl
  | lit h hlast hb hi he hn ih => simp [Tk.len_lit, Tk.len_mat]; omega
  | mat h hn hb ih => simp [Tk.len_lit, Tk.len_mat]; omega
end Go.Proofs.Ytklfmgkfcacfkaa
