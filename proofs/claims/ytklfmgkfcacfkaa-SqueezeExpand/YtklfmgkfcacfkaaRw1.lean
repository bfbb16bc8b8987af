import Derived.Test.YtklfmgkfcacfkaaRx2
import Derived.Test.YtklfmgkfcacfkaaRk2
/-! The document's Write. -/
namespace Go.Proofs.Ytklfmgkfcacfkaa
open Go.RowKit Plain
set_option linter.unusedVariables false
set_option linter.unusedSimpArgs false

def Tg.enc (t : Tg) : List Nat := if t.l = [] then uv (2 * t.n.toNat + 1) ++ uv t.d.toNat else uv (2 * t.l.length) ++ t.l
def blkG (n : Nat) (tg : List Tg) : List Nat := uv n ++ tg.flatMap Tg.enc

/-- What a right token is like. -/
def Tg.fine (t : Tg) : Prop := (t.l = [] ∧ 5 ≤ t.n ∧ t.n ≤ 258 ∧ 1 ≤ t.d ∧ t.d ≤ 2048) ∨ (t.l ≠ [] ∧ t.d = 0 ∧ t.n = 0 ∧ t.l.length ≤ 4096)
theorem tlen_fine : ∀ (tg : List Tg) (m : Nat), m ≤ 4096 → (tlen tg m).2 = 0 → m + tg.length ≤ (tlen tg m).1 ∧ (tlen tg m).1 ≤ 4096 ∧ ∀ t ∈ tg, t.fine
  | [], m, hm, _ => by simp [tlen]; omega
  | t :: tg, m, hm, h => by
    simp only [tlen] at h ⊢
    by_cases h1 : t.right m = false
    · rw [if_pos h1] at h; simp at h
    rw [if_neg h1] at h ⊢
    by_cases h2 : 4096 < m + t.add
    · rw [if_pos h2] at h; simp at h
    rw [if_neg h2] at h ⊢
    obtain ⟨i1, i2, i3⟩ := tlen_fine tg (m + t.add) (by omega) h
    have hr : t.right m = true := by simpa using h1
    have hf : t.fine ∧ 1 ≤ t.add := by
      unfold Tg.right at hr
      unfold Tg.add at h2 ⊢
      by_cases e : t.l = []
      · rw [if_pos e] at hr
        simp at hr
        exact ⟨.inl ⟨e, by omega⟩, by omega⟩
      · rw [if_neg e] at hr
        simp at hr
        have : 0 < t.l.length := List.length_pos_iff.mpr e
        exact ⟨.inr ⟨e, hr.1, hr.2, by omega⟩, by omega⟩
    refine ⟨by simp; omega, i2, fun x hx => ?_⟩
    simp only [List.mem_cons] at hx
    rcases hx with rfl | hx
    · exact hf.1
    · exact i3 x hx
theorem Tg.enc_len (t : Tg) (h : t.fine) : t.enc.length ≤ 5000 := by
  unfold Tg.enc
  rcases h with ⟨h0, h1, h2, h3, h4⟩ | ⟨h0, h1, h2, h3⟩
  · rw [if_pos h0, List.length_append]
    have a1 := uv_len10 (v := 2 * t.n.toNat + 1) (by omega)
    have a2 := uv_len10 (v := t.d.toNat) (by omega)
    omega
  · rw [if_neg h0, List.length_append]
    have a1 := uv_len10 (v := 2 * t.l.length) (by omega)
    omega
theorem encG_len (tg : List Tg) (h : ∀ t ∈ tg, t.fine) : (tg.flatMap Tg.enc).length ≤ 5000 * tg.length := by
  induction tg with
  | nil => simp
  | cons t tg ih =>
    have h1 := ih (fun x hx => h x (by simp [hx]))
    have h2 := t.enc_len (h t (by simp))
    simp only [List.flatMap_cons, List.length_append, List.length_cons]
    omega
theorem encG_take (tg : List Tg) (k : Nat) (h : k < tg.length) : (tg.take (k + 1)).flatMap Tg.enc = (tg.take k).flatMap Tg.enc ++ tg[k].enc := by
  rw [List.take_succ_eq_append_getElem h, List.flatMap_append]
  simp
/-- The document's bytes are the program's. -/
theorem Sims.blk {tg : List Tg} {ts : List Tk} (h : Sims tg ts) (hl : ∀ g b, Tk.lit g b ∈ ts → b ≠ []) (n : Nat) : blkG n tg = Go.Proofs.Ytklfmgkfcacfkaa.blk n ts := by
  unfold blkG Go.Proofs.Ytklfmgkfcacfkaa.blk
  congr 1
  unfold Sims at h
  induction ts generalizing tg with
  | nil =>
    have : tg = [] := by simpa using h
    subst this; rfl
  | cons k ts ih =>
    cases tg with
    | nil => simp at h
    | cons t tg =>
      simp only [List.map_cons, List.cons.injEq] at h
      rw [List.flatMap_cons, List.flatMap_cons, ih h.2 (fun g b hb => hl g b (by simp [hb]))]
      congr 1
      have h1 := h.1
      have h2 := hl
      cases k using Tk.elim with
      | lit g b =>
        have hb := h2 g b (by simp)
        rw [Tk.g_lit] at h1
        simp only [Tg.c3, Prod.mk.injEq] at h1
        unfold Tg.enc
        rw [if_neg (by rw [h1.1]; exact hb), h1.1, Tk.enc_lit]
      | mat d m =>
        rw [Tk.g_mat] at h1
        simp only [Tg.c3, Prod.mk.injEq] at h1
        unfold Tg.enc
        rw [if_pos h1.1, h1.2.1, h1.2.2, Tk.enc_mat]
        simp

def WrtPost (w : World) (tg : List Tg) : Ending → World → Prop := fun e w' =>
  (((tlen tg 0).2 ≠ 0 ∧ e = .returned (.tuple #[.slice none 0 0, .int .i64 ((tlen tg 0).2 : Nat)])) ∨ ((tlen tg 0).2 = 0 ∧ ∃ v r, e = .returned (.tuple #[v, .int .i64 0]) ∧ Own w' v (blkG (tlen tg 0).1 tg) r ∧ (∀ g, r = some g → w.heap.size ≤ g))) ∧ Below w.heap.size w w'

theorem refWriteBad (sv : Value) (tg : List Tg) (w : World) (h : TRd w sv tg) (hbad : (tlen tg 0).2 ≠ 0) : Calls Try.prog 27 #[sv] w (WrtPost w tg) := by
  have HT : Hid (TRd w sv tg) := h
  obtain ⟨a, cap, rfl, -⟩ := h
  have HB : Hid ((tlen tg 0).2 ≠ 0) := hbad
  obtain ⟨z, hz⟩ : ∃ z : Nat, (tlen tg 0).2 = z := ⟨_, rfl⟩
  have HZ : Hid ((tlen tg 0).2 = z) := hz
  have hne : (((z : Nat) : Int) != 0) = true := by simp; omega
  clear hbad hz
  go_enter Try.func27, Try.ntmps27
  go_wp2_with fail
  refine (refExpand _ tg w HT.out).mono ?_
  rintro e w1 ⟨he, hb1⟩
  rcases he with ⟨_, rfl⟩ | ⟨h0, _⟩
  · rw [HZ.out]
    have HB1 : Hid (Below w.heap.size w w1) := hb1
    clear hb1
    go_wp2
    go_ret2
    exact ⟨.inl ⟨HB.out, by rw [HZ.out]; rfl⟩, HB1.out⟩
  · exact absurd h0 HB.out
end Go.Proofs.Ytklfmgkfcacfkaa
