import Derived.Test.YtdjaogailfipjabTok2
namespace Go.Proofs.Ytdjaogailfipjab
open Go.RowKit Plain
set_option linter.unusedVariables false
theorem zero48 : (Try.prog.info? 48).map (fun i => i.zero.map fun z => z.cells) = some (some (Array.replicate 6144 (.int .u16 0))) := by kernel_rfl

theorem wpList_alloc_tab {ops : Array Oper} {rest : List Oper} {o : Oper} {a : Act} {Q : Exit → Act → World → Prop} {w : World} (hgd : o.guard = none) (ho : o.op = .alloc 48)
    (h : ∀ Z : Array Value, Z = Array.replicate 6144 (.int .u16 0) → wpList Try.prog ops Q rest (a.put o.dst (.pointer (some ⟨w.heap.size, 0, none⟩))) (w.alloc (.cells Z 48))) : wpList Try.prog ops Q (o :: rest) a w :=
  wpList_plain hgd fun _ hK => by
    obtain ⟨i, hi, hzz⟩ := Option.map_eq_some_iff.1 zero48
    obtain ⟨z, hz, hzc⟩ := Option.map_eq_some_iff.1 hzz
    have h' := h z.cells hzc
    unfold Oper.wp execOp
    simp only [ho]
    simp [go_sem, zeroValue, typeInfo, hi, hz]
    exact hK _ _ h'

theorem TabAt.new (w : World) (Z : Array Value) (h : Z = Array.replicate 6144 (.int .u16 0)) : TabAt (w.alloc (.cells Z 48)) w.heap.size (fun _ => 0) (fun _ => 0) := by
  have hc : ∀ j, j < 6144 → (w.alloc (.cells Z 48)).cell? ⟨w.heap.size, j, none⟩ = some (.int .u16 0) := fun j hj => by
    rw [World.cell?_alloc_at _ _ _ _ rfl, h, Array.getElem?_replicate, if_pos hj]
  exact ⟨fun j hj => hc j (by omega), fun j hj => hc (2048 + j) (by omega), fun j hj => World.frozen?_alloc_at _ _ _ _ rfl⟩

/-- The tokens ts tell the first i bytes of the text, as the document asks. -/
inductive PreP (l : List Nat) : List Tk → Nat → Prop
  | nil : PreP l [] 0
  | lit {ts : List Tk} {i g : Nat} {b : List Nat} (h : PreP l ts i) (hlast : ∀ g' b', ts.getLast? ≠ some (.lit g' b')) (hb : b ≠ []) (hi : i + b.length ≤ l.length) (he : b = (l.drop i).take b.length) (hn : ∀ j, i ≤ j → j < i + b.length → Best l j 0 0) : PreP l (ts ++ [.lit g b]) (i + b.length)
  | mat {ts : List Tk} {i d n : Nat} (h : PreP l ts i) (hn : 5 ≤ n) (hb : Best l i d n) : PreP l (ts ++ [.mat d n]) (i + n)

theorem PreP.le {l : List Nat} {ts : List Tk} {i : Nat} (h : PreP l ts i) : i ≤ l.length := by
  cases h with
  | nil => omega
  | lit h hlast hb hi he hn => exact hi
  | mat h hn hb =>
    rcases hb with ⟨h0, _⟩ | ⟨_, _, h1, _⟩ <;> omega

theorem PreP.count {l : List Nat} {ts : List Tk} {i : Nat} (h : PreP l ts i) : ts.length ≤ i := by
  induction h with
  | nil => simp
  | lit h hlast hb hi he hn ih =>
    have := List.length_pos_iff.mpr hb
    simp; omega
  | mat h hn hb ih => simp; omega

theorem PreP.sum {l : List Nat} {ts : List Tk} {i : Nat} (h : PreP l ts i) : i = (ts.map Tk.len).sum := by
  induction h with
  | nil => rfl
  | lit h hlast hb hi he hn ih => simp [Tk.len]; omega
  | mat h hn hb ih => simp [Tk.len]; omega
end Go.Proofs.Ytdjaogailfipjab
