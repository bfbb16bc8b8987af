import Derived.Test.YtbngedfpojnbjabFix
namespace Go.Proofs.Ytbngedfpojnbjab
open Go.RowKit Plain
set_option linter.unusedVariables false

/-- A text turned into a new row of bytes. -/
theorem run_to_bytes (s : ByteArray) (w : World) (hs : s.size ≤ maxLen) : ∃ v' w' g, (convert 9 23 (.string s)).run Try.prog w = .ok v' w' ∧ Own w' v' (bytesOf s) (some g) ∧ Below w.heap.size w w' ∧ w.heap.size ≤ g := by
  have hr := run_bytes_of_string (P := Try.prog) w 9 23 5 s Try.underlying9 Try.underlying23 Try.underlying5
  refine ⟨_, _, w.heap.size, hr, ?_, ((Below.refl _ _).drew).alloc (Nat.le_refl _) _, Nat.le_refl _⟩
  have hge := grownCap_ge w s.size 0 5
  have hcm := grownCap_le_maxLen w s.size 0 5 hs
  have hsz : (bytesRow s (grownCap w s.size 0 5)).size = grownCap w s.size 0 5 := by
    simp [bytesRow]; show s.size + _ = _; omega
  refine ⟨bytesOf_byte s, .inr ⟨w.heap.size, _, rfl, by rw [bytesOf_len], by simp, by rw [bytesOf_len]; exact hge, hcm, fun j hj => ?_, fun j hj => ?_, fun j hj => ?_⟩⟩
  · have := World.frozen?_alloc_mark w.drew (bytesRow s (grownCap w s.size 0 5)) 5 (bytesRow s (grownCap w s.size 0 5)).size ((bytesRow s (grownCap w s.size 0 5)).size + 1) j
    refine this.trans ?_
    simp; omega
  · have := World.cell?_alloc_mark w.drew (bytesRow s (grownCap w s.size 0 5)) 5 ((bytesRow s (grownCap w s.size 0 5)).size, (bytesRow s (grownCap w s.size 0 5)).size + 1) j
    have e : (w.drew.alloc (.cells (bytesRow s (grownCap w s.size 0 5)) 5 ((bytesRow s (grownCap w s.size 0 5)).size, (bytesRow s (grownCap w s.size 0 5)).size + 1))).cell? ⟨w.heap.size, j, none⟩ = _ := this
    rw [e, Array.getElem?_eq_getElem (by omega)]; rfl
  · rw [bytesOf_len] at hj
    have := World.cell?_alloc_mark w.drew (bytesRow s (grownCap w s.size 0 5)) 5 ((bytesRow s (grownCap w s.size 0 5)).size, (bytesRow s (grownCap w s.size 0 5)).size + 1) j
    have e : (w.drew.alloc (.cells (bytesRow s (grownCap w s.size 0 5)) 5 ((bytesRow s (grownCap w s.size 0 5)).size, (bytesRow s (grownCap w s.size 0 5)).size + 1))).cell? ⟨w.heap.size, j, none⟩ = _ := this
    rw [e, bytesRow_at s _ j hj]
    have hj2 : j < s.data.toList.length := by simpa using hj
    simp [bytesOf, List.getD_eq_getElem?_getD, hj]

theorem wpList_to_bytes {ops : Array Oper} {rest : List Oper} {o : Oper} {a : Act} {Q : Exit → Act → World → Prop} (w : World) (hgd : o.guard = none) (x : Operand)
    (ho : o.op = .convert 9 23 x) (s : ByteArray) (hs : s.size ≤ maxLen) (hx : a.eval x = .string s)
    (h : ∀ v' w' g, Own w' v' (bytesOf s) (some g) → Below w.heap.size w w' → w.heap.size ≤ g → wpList Try.prog ops Q rest (a.put o.dst v') w') : wpList Try.prog ops Q (o :: rest) a w :=
  wpList_plain hgd fun _ hK => by
    obtain ⟨v', w', g, hr, h1, h2, h3⟩ := run_to_bytes s w hs
    unfold Oper.wp execOp
    simp only [ho, hx, Sem.run_bind, hr, Result.andThen_ok]
    exact hK _ _ (h v' w' g h1 h2 h3)

/-- Bytes turned into a text. -/
theorem run_to_string (s : ByteArray) (v : Value) (w : World) (h : BytesAt w v (bytesOf s)) : (convert 23 9 v).run Try.prog w = .ok (.string s) w := by
  obtain ⟨a, cap, rfl, h1, h2, h3, h4⟩ := h
  by_cases hnil : bytesOf s = []
  · have hs0 : s.data.toList = [] := by simpa [bytesOf] using hnil
    have hs1 : s = ⟨#[]⟩ := by cases s; simp at hs0; rw [hs0]
    subst hs1
    cases a with
    | none => exact run_convert_bytes_string (P := Try.prog) w 23 9 5 none 0 cap Try.underlying23 Try.underlying5 Try.underlying9
    | some x => exact run_convert_bytes_back (P := Try.prog) w 23 9 5 x cap [] Try.underlying23 Try.underlying5 Try.underlying9 (fun j hj => by simp at hj)
  · obtain ⟨b, off, rfl, h5⟩ := h4 hnil
    have := run_convert_bytes_back (P := Try.prog) w 23 9 5 ⟨b, off, none⟩ cap s.data.toList Try.underlying23 Try.underlying5 Try.underlying9 (fun j hj => by
      rw [WideShapes.add_plain, h5 j (by simpa [bytesOf] using hj)]
      have e : (bytesOf s).getD j 0 = s.data.toList[j].toNat := by
        unfold bytesOf
        rw [List.getD_eq_getElem?_getD, List.getElem?_map, List.getElem?_eq_getElem hj]
        rfl
      rw [e])
    rw [show (bytesOf s).length = s.data.toList.length by simp [bytesOf]]
    exact this

theorem vU32 (b : Nat) (data : List Nat) (r : Option Nat) (v : Nat) (w : World) (h : WAt w b data r) (hv : v < 4294967296) (hl : data.length + 8 ≤ 140737488355328) :
    Calls Try.prog 38 #[.pointer (some ⟨b, 0, none⟩), .int .u32 v] w fun e w' => e = .returned (.tuple #[]) ∧ WPost w w' b (data ++ be 4 v) r := by
  have HW : Hid (WAt w b data r) := h
  have hbl := be_len v 4
  clear h
  go_enter Try.func38, Try.ntmps38
  go_wp2_with fail
  refine (refFixed4 v _ (by omega)).mono ?_
  rintro e w1 ⟨v1, g1, rfl, ho1, hg1, hb1⟩
  have HO : Hid (Own w1 v1 (be 4 v) (some g1)) := ho1
  have HB : Hid (Below w.heap.size w w1) := hb1
  clear ho1 hg1 hb1
  go_wp2_with fail
  refine (vRaw b data r _ (be 4 v) _ (HW.out.later HB.out) HO.out.bytes (by omega)).mono ?_
  rintro e w2 ⟨rfl, hp⟩
  have HP : Hid (WPost w w2 b (data ++ be 4 v) r) := WPost.on (Kept2.of_below HB.out) (.inl rfl) hp
  clear hp
  go_wp2
  go_end0
  exact ⟨rfl, HP.out⟩

theorem vU64 (b : Nat) (data : List Nat) (r : Option Nat) (v : Nat) (w : World) (h : WAt w b data r) (hv : v < 18446744073709551616) (hl : data.length + 8 ≤ 140737488355328) :
    Calls Try.prog 40 #[.pointer (some ⟨b, 0, none⟩), .int .u64 v] w fun e w' => e = .returned (.tuple #[]) ∧ WPost w w' b (data ++ be 8 v) r := by
  have HW : Hid (WAt w b data r) := h
  have hbl := be_len v 8
  clear h
  go_enter Try.func40, Try.ntmps40
  go_wp2_with fail
  refine (refFixed8 v _ (by omega)).mono ?_
  rintro e w1 ⟨v1, g1, rfl, ho1, hg1, hb1⟩
  have HO : Hid (Own w1 v1 (be 8 v) (some g1)) := ho1
  have HB : Hid (Below w.heap.size w w1) := hb1
  clear ho1 hg1 hb1
  go_wp2_with fail
  refine (vRaw b data r _ (be 8 v) _ (HW.out.later HB.out) HO.out.bytes (by omega)).mono ?_
  rintro e w2 ⟨rfl, hp⟩
  have HP : Hid (WPost w w2 b (data ++ be 8 v) r) := WPost.on (Kept2.of_below HB.out) (.inl rfl) hp
  clear hp
  go_wp2
  go_end0
  exact ⟨rfl, HP.out⟩

theorem vText (b : Nat) (data : List Nat) (r : Option Nat) (s : ByteArray) (w : World) (h : WAt w b data r) (hl : data.length + s.size + 10 ≤ 140737488355328) :
    Calls Try.prog 42 #[.pointer (some ⟨b, 0, none⟩), .string s] w fun e w' => e = .returned (.tuple #[]) ∧ WPost w w' b (data ++ (uv s.size ++ bytesOf s)) r := by
  have HW : Hid (WAt w b data r) := h
  have h10 := uv_len10 (v := s.size) (by omega)
  have hsl := bytesOf_len s
  have hsm : s.size ≤ maxLen := by unfold maxLen; omega
  clear h
  go_enter Try.func42, Try.ntmps42
  go_wp2_with fail
  refine (refUvarint s.size _ (by omega)).mono ?_
  rintro e w1 ⟨v1, g1, rfl, ho1, hg1, hb1⟩
  have HO : Hid (Own w1 v1 (uv s.size) (some g1)) := ho1
  have HB : Hid (Below w.heap.size w w1) := hb1
  clear ho1 hg1 hb1
  go_wp2_with fail
  refine (vRaw b data r _ (uv s.size) _ (HW.out.later HB.out) HO.out.bytes (by omega)).mono ?_
  rintro e w2 ⟨rfl, hp⟩
  obtain ⟨r2, hw2, hk2, hr2⟩ := WPost.on (Kept2.of_below HB.out) (.inl rfl) hp
  have HW2 : Hid (WAt w2 b (data ++ uv s.size) r2) := hw2
  have HK2 : Hid (Kept2 w w2 b r) := hk2
  have HR2 : Hid (r2 = r ∨ ∃ g, r2 = some g ∧ w.heap.size ≤ g) := hr2
  clear hp hw2 hk2 hr2 HB HO
  go_wp2_with (refine wpList_to_bytes _ rfl _ rfl s hsm rfl ?_)
  intro v3 w3 g3 ho3 hb3 hg3
  have HO3 : Hid (Own w3 v3 (bytesOf s) (some g3)) := ho3
  have HB3 : Hid (Below w2.heap.size w2 w3) := hb3
  clear ho3 hb3 hg3
  go_wp2_with fail
  refine (vRaw b (data ++ uv s.size) r2 _ (bytesOf s) _ (HW2.out.later HB3.out) HO3.out.bytes (by simp; omega)).mono ?_
  rintro e w4 ⟨rfl, hp⟩
  have HP : Hid (WPost w w4 b (data ++ (uv s.size ++ bytesOf s)) r) := WPost.on HK2.out HR2.out (WPost.on (Kept2.of_below HB3.out) (.inl rfl) (by rw [← List.append_assoc]; exact hp))
  clear hp
  go_wp2
  go_end0
  exact ⟨rfl, HP.out⟩
end Go.Proofs.Ytbngedfpojnbjab
