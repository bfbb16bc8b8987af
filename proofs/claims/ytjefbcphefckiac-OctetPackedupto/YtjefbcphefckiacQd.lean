import Derived.Test.YtjefbcphefckiacQc
import Derived.Laws.StructEq
/-! The law of packed items. -/
namespace Go.Proofs.Ytjefbcphefckiac
open Go.RowKit Plain
set_option linter.unusedVariables false

theorem bulk_len (ts : List It) : ts.length ≤ bulk ts := by
  induction ts with
  | nil => simp [bulk]
  | cons x r ih => simp [bulk]; omega
theorem bulk_size (ts : List It) : ∀ x ∈ ts, x.s.size ≤ bulk ts := by
  induction ts with
  | nil => simp
  | cons y r ih =>
    intro x hx
    simp only [List.mem_cons] at hx
    simp only [bulk]
    rcases hx with rfl | hx
    · omega
    · have := ih x hx; omega
theorem OwnI.itemsAt {w : World} {v : Value} {ts : List It} {r : Option Nat} (h : OwnI w v ts r) (hb : ∀ x ∈ ts, x.n < 18446744073709551616 ∧ x.s.size < 18446744073709551616) : ItemsAt w v ts := by
  have h' := h
  rcases h with ⟨rfl, rfl, rfl⟩ | ⟨g, cap, rfl, rfl, hg, h1, h2, h3, h4, h5⟩
  · exact ⟨none, 0, rfl, by simp, by simp, by simp⟩
  · have := h'.items (n := ts.length) (Nat.le_refl _) hb
    rwa [List.take_length] at this

set_option maxHeartbeats 4000000 in
theorem packedBad (vi vk vb : Value) (st : List It) (ks : List Int) (most : Int) (l : List Nat) (w : World) (hi : ItemsAt w vi st) (hk : IntsAt w vk ks) (hb : BytesAt w vb l) (hst : bulk st ≤ 1099511627776) (hl : l.length ≤ 1099511627776) (hkl : ks.length ≤ 1099511627776) (hm1 : -9223372036854775808 ≤ most) (hm2 : most ≤ 9223372036854775807) (hf : st.all It.fits = false) :
    Calls Try.prog 3 #[vi, vk, .int .i64 most, vb] w fun e w' => e = .returned (.bool true) ∧ Below w.heap.size w w' := by
  have HI : Hid (ItemsAt w vi st) := hi
  have HK : Hid (IntsAt w vk ks) := hk
  have HL : Hid (BytesAt w vb l) := hb
  obtain ⟨ab, capb, rfl, -⟩ := hb
  obtain ⟨ak, capk, rfl, -⟩ := hk
  obtain ⟨a, cap, rfl, hcl, -, -⟩ := hi
  have HF : Hid (packErr st = 12) := by unfold Hid; simp [packErr, hf]
  clear hf
  go_enter Try.func3, Try.ntmps3
  go_wp2_with fail
  refine (unpackFirstAt w).mono ?_
  rintro e w1 ⟨g1, cap1, p1, rfl, hc1, hb1⟩
  have HB1 : Hid (Below w.heap.size w w1) := hb1
  have hg1 := cell_lt hc1
  simp only at hg1
  clear hb1
  go_wp2_with fail
  refine (packAny _ st _ (HI.out.later (HB1.out.alloc HB1.out.size _)) (by omega)).mono ?_
  rintro e w2 ⟨vx, rx, rfl, hox, hrx, hbx⟩
  have HB2 : Hid (Below w.heap.size w w2) := below_on (HB1.out.alloc HB1.out.size _) hbx
  obtain ⟨ax, capx, rfl⟩ := hox.isSlice
  rw [HF.out]
  clear hox hrx hbx hc1 hg1
  go_wp2_with fail
  refine (unpackBack _ _ ks most l _ (HK.out.later HB2.out) (HL.out.later HB2.out) (by omega) (by omega) hm1 hm2).mono ?_
  rintro e w8 ⟨v8, r8, ts, x8, p8, rfl, ho8, hx8, hb8⟩
  obtain ⟨a8, cap8, rfl, -, -⟩ := ho8.shape
  have HB8 : Hid (Below w.heap.size w w8) := below_on HB2.out hb8
  have HO8 : Hid (OwnI w8 (.slice a8 ts.length cap8) ts r8) := ho8
  clear ho8 hb8
  rcases hx8 with ⟨hx, rfl⟩ | ⟨rfl, hbk⟩
  · have hx' : (x8 != 0) = true := by simpa using hx
    clear hx
    go_wp2
    go_ret
    exact ⟨rfl, HB8.out.alloc HB8.out.size _⟩
  · have HBK : Hid (Back ts l ks.length) := hbk
    clear hbk
    go_wp2_with fail
    refine (packAny _ ts _ ((HO8.out.itemsAt HBK.out.n).later ((Below.refl _ _).alloc (Nat.le_refl _) _)) (by have := HBK.out.b; omega)).mono ?_
    rintro e w9 ⟨v9, r9, rfl, ho9, -, hb9⟩
    obtain ⟨hp1, hp2⟩ := packed_good ts HBK.out.f
    rw [hp1, HBK.out.e] at ho9
    rw [hp2]
    have HO9 : Hid (Own w9 v9 l r9) := ho9
    have HB9 : Hid (Below w.heap.size w w9) := below_on (HB8.out.alloc HB8.out.size _) hb9
    clear hb9 ho9 hp1 hp2
    go_wp2_with fail
    refine (sameYes _ _ l w9 HO9.out.bytes (HL.out.later HB9.out)).mono ?_
    rintro e w10 ⟨rfl, n10, rfl⟩
    go_wp2
    go_ret
    exact ⟨rfl, below_drewN HB9.out _⟩
end Go.Proofs.Ytjefbcphefckiac
