import Derived.Test.YtbngedfpojnbjabStep2
namespace Go.Proofs.Ytbngedfpojnbjab
open Go.RowKit Plain
set_option linter.unusedVariables false

theorem sb0 (n : Nat) (s : ByteArray) : stepBytes 0 n s = [n % 256] := by unfold stepBytes; simp
theorem sb1 (n : Nat) (s : ByteArray) : stepBytes 1 n s = uv n := by unfold stepBytes; simp
theorem sb2 (n : Nat) (s : ByteArray) : stepBytes 2 n s = uv (zz (wrap64 n)).toNat := by unfold stepBytes; simp
theorem sb3 (n : Nat) (s : ByteArray) : stepBytes 3 n s = be 4 (n % 4294967296) := by unfold stepBytes; simp
theorem sb4 (n : Nat) (s : ByteArray) : stepBytes 4 n s = be 8 n := by unfold stepBytes; simp
theorem sb5 (n : Nat) (s : ByteArray) : stepBytes 5 n s = uv s.size ++ bytesOf s := by unfold stepBytes; simp
theorem sb10 (n : Nat) (s : ByteArray) : stepBytes 10 n s = bytesOf s := by unfold stepBytes; simp

theorem writesOk (b1 b2 : Nat) (d : List Nat) (r1 r2 : Option Nat) (k : Int) (n : Nat) (s : ByteArray) (w : World) (h : Two w b1 b2 d r1 r2) (hn : n < 18446744073709551616) (hl : d.length + s.size + 10 ≤ 140737488351232) :
    Calls Try.prog 24 #[.pointer (some ⟨b1, 0, none⟩), .pointer (some ⟨b2, 0, none⟩), .agg #[.int .i64 k, .int .u64 n, .string s]] w fun e w' => e = .returned (.bool true) ∧ TwoPost w w' b1 b2 (d ++ stepBytes k n s) r1 r2 := by
  by_cases h0 : k = 0
  · subst h0; rw [sb0]; exact writes0 b1 b2 d r1 r2 n s w (n % 256) h hn hl rfl
  by_cases h1 : k = 1
  · subst h1; rw [sb1]; exact writes1 b1 b2 d r1 r2 n s w h hn hl
  by_cases h2 : k = 2
  · subst h2; rw [sb2]; exact writes2 b1 b2 d r1 r2 n s w h hn hl
  by_cases h3 : k = 3
  · subst h3; rw [sb3]; exact writes3 b1 b2 d r1 r2 n s w (n % 4294967296) h hn hl rfl
  by_cases h4 : k = 4
  · subst h4; rw [sb4]; exact writes4 b1 b2 d r1 r2 n s w h hn hl
  by_cases h5 : k = 5
  · subst h5; rw [sb5]; exact writes5 b1 b2 d r1 r2 n s w h hn hl
  by_cases h10 : k = 10
  · subst h10; rw [sb10]; exact writes10 b1 b2 d r1 r2 n s w h hn hl
  have hS : stepBytes k n s = [] := by unfold stepBytes; simp [h0, h1, h2, h3, h4, h5, h10]
  rw [hS, List.append_nil]
  by_cases h11 : k = 11
  · subst h11; exact writes11 b1 b2 d r1 r2 n s w h hn hl
  · exact (writesElse _ _ k n s w (by simpa using h0) (by simpa using h1) (by simpa using h2) (by simpa using h3) (by simpa using h4) (by simpa using h5) (by simpa using h10) (by simpa using h11)).mono fun e w' ⟨he, hb⟩ => ⟨he, TwoPost.of_below h hb⟩

set_option maxRecDepth 1000000 in
theorem nils0 (n : Nat) (s : ByteArray) (w : World) (hn : n < 18446744073709551616) (hl : s.size ≤ 140737488351232) :
    Calls Try.prog 24 #[.pointer none, .pointer none, .agg #[.int .i64 0, .int .u64 n, .string s]] w fun e w' => e = .returned (.bool true) ∧ Below w.heap.size w w' := by
  have HB : Hid (Below w.heap.size w (w.alloc (.cells #[.int .i64 0, .int .u64 n, .string s] 51))) := (Below.refl _ _).alloc (Nat.le_refl _) _
  go_enter Try.func24, Try.ntmps24
  go_wp2_with fail
  refine (nByte _ _).mono ?_
  rintro e w1 ⟨rfl, rfl⟩
  go_wp2_with fail
  refine (mByte _ _).mono ?_
  rintro e w2 ⟨rfl, hb2⟩
  have HB2 : Hid (Below w.heap.size w w2) := below_on HB.out hb2
  clear hb2
  go_wp2
  go_ret
  exact ⟨rfl, HB2.out⟩

set_option maxRecDepth 1000000 in
theorem nils1 (n : Nat) (s : ByteArray) (w : World) (hn : n < 18446744073709551616) (hl : s.size ≤ 140737488351232) :
    Calls Try.prog 24 #[.pointer none, .pointer none, .agg #[.int .i64 1, .int .u64 n, .string s]] w fun e w' => e = .returned (.bool true) ∧ Below w.heap.size w w' := by
  have HB : Hid (Below w.heap.size w (w.alloc (.cells #[.int .i64 1, .int .u64 n, .string s] 51))) := (Below.refl _ _).alloc (Nat.le_refl _) _
  go_enter Try.func24, Try.ntmps24
  go_wp2_with fail
  refine (nUvarint _ _).mono ?_
  rintro e w1 ⟨rfl, rfl⟩
  go_wp2_with fail
  refine (mUvarint n _ hn).mono ?_
  rintro e w2 ⟨rfl, hb2⟩
  have HB2 : Hid (Below w.heap.size w w2) := below_on HB.out hb2
  clear hb2
  go_wp2
  go_ret
  exact ⟨rfl, HB2.out⟩

set_option maxRecDepth 1000000 in
theorem nils2 (n : Nat) (s : ByteArray) (w : World) (hn : n < 18446744073709551616) (hl : s.size ≤ 140737488351232) :
    Calls Try.prog 24 #[.pointer none, .pointer none, .agg #[.int .i64 2, .int .u64 n, .string s]] w fun e w' => e = .returned (.bool true) ∧ Below w.heap.size w w' := by
  have HB : Hid (Below w.heap.size w (w.alloc (.cells #[.int .i64 2, .int .u64 n, .string s] 51))) := (Below.refl _ _).alloc (Nat.le_refl _) _
  go_enter Try.func24, Try.ntmps24
  go_wp2_with fail
  refine (nVarint _ _ (wrap64_range n).1 (wrap64_range n).2).mono ?_
  rintro e w1 ⟨rfl, rfl⟩
  go_wp2_with fail
  refine (mVarint _ _ (wrap64_range n).1 (wrap64_range n).2).mono ?_
  rintro e w2 ⟨rfl, hb2⟩
  have HB2 : Hid (Below w.heap.size w w2) := below_on HB.out hb2
  clear hb2
  go_wp2
  go_ret
  exact ⟨rfl, HB2.out⟩

set_option maxRecDepth 1000000 in
theorem nils3 (n : Nat) (s : ByteArray) (w : World) (hn : n < 18446744073709551616) (hl : s.size ≤ 140737488351232) :
    Calls Try.prog 24 #[.pointer none, .pointer none, .agg #[.int .i64 3, .int .u64 n, .string s]] w fun e w' => e = .returned (.bool true) ∧ Below w.heap.size w w' := by
  obtain ⟨c, hc⟩ : ∃ c, n % 4294967296 = c := ⟨_, rfl⟩
  have hcast : (n : Int) % 4294967296 = (c : Int) := by omega
  have hcl : c < 4294967296 := by omega
  clear hc
  have HB : Hid (Below w.heap.size w (w.alloc (.cells #[.int .i64 3, .int .u64 n, .string s] 51))) := (Below.refl _ _).alloc (Nat.le_refl _) _
  go_enter Try.func24, Try.ntmps24
  go_wp2_with fail
  refine (nU32 c _ (by omega)).mono ?_
  rintro e w1 ⟨rfl, rfl⟩
  go_wp2_with fail
  refine (mU32 c _ (by omega)).mono ?_
  rintro e w2 ⟨rfl, hb2⟩
  have HB2 : Hid (Below w.heap.size w w2) := below_on HB.out hb2
  clear hb2
  go_wp2
  go_ret
  exact ⟨rfl, HB2.out⟩

set_option maxRecDepth 1000000 in
theorem nils4 (n : Nat) (s : ByteArray) (w : World) (hn : n < 18446744073709551616) (hl : s.size ≤ 140737488351232) :
    Calls Try.prog 24 #[.pointer none, .pointer none, .agg #[.int .i64 4, .int .u64 n, .string s]] w fun e w' => e = .returned (.bool true) ∧ Below w.heap.size w w' := by
  have HB : Hid (Below w.heap.size w (w.alloc (.cells #[.int .i64 4, .int .u64 n, .string s] 51))) := (Below.refl _ _).alloc (Nat.le_refl _) _
  go_enter Try.func24, Try.ntmps24
  go_wp2_with fail
  refine (nU64 n _ hn).mono ?_
  rintro e w1 ⟨rfl, rfl⟩
  go_wp2_with fail
  refine (mU64 n _ hn).mono ?_
  rintro e w2 ⟨rfl, hb2⟩
  have HB2 : Hid (Below w.heap.size w w2) := below_on HB.out hb2
  clear hb2
  go_wp2
  go_ret
  exact ⟨rfl, HB2.out⟩

set_option maxRecDepth 1000000 in
theorem nils5 (n : Nat) (s : ByteArray) (w : World) (hn : n < 18446744073709551616) (hl : s.size ≤ 140737488351232) :
    Calls Try.prog 24 #[.pointer none, .pointer none, .agg #[.int .i64 5, .int .u64 n, .string s]] w fun e w' => e = .returned (.bool true) ∧ Below w.heap.size w w' := by
  have HB : Hid (Below w.heap.size w (w.alloc (.cells #[.int .i64 5, .int .u64 n, .string s] 51))) := (Below.refl _ _).alloc (Nat.le_refl _) _
  go_enter Try.func24, Try.ntmps24
  go_wp2_with fail
  refine (nText s _).mono ?_
  rintro e w1 ⟨rfl, rfl⟩
  go_wp2_with fail
  refine (mText s _ (by omega)).mono ?_
  rintro e w2 ⟨rfl, hb2⟩
  have HB2 : Hid (Below w.heap.size w w2) := below_on HB.out hb2
  clear hb2
  go_wp2
  go_ret
  exact ⟨rfl, HB2.out⟩

set_option maxHeartbeats 400000 in
set_option maxRecDepth 1000000 in
theorem nils10 (n : Nat) (s : ByteArray) (w : World) (hn : n < 18446744073709551616) (hl : s.size ≤ 140737488351232) :
    Calls Try.prog 24 #[.pointer none, .pointer none, .agg #[.int .i64 10, .int .u64 n, .string s]] w fun e w' => e = .returned (.bool true) ∧ Below w.heap.size w w' := by
  have HB : Hid (Below w.heap.size w (w.alloc (.cells #[.int .i64 10, .int .u64 n, .string s] 51))) := (Below.refl _ _).alloc (Nat.le_refl _) _
  have hsl := bytesOf_len s
  have hsm : s.size ≤ maxLen := by unfold maxLen; omega
  go_enter Try.func24, Try.ntmps24
  go_wp2_with (refine wpList_to_bytes _ rfl _ rfl s hsm rfl ?_)
  intro vb wb gb hob hbb hgb
  obtain ⟨capb, rfl, hcb, hmb⟩ := hob.shape
  have hx1 : wb.cell? ⟨w.heap.size, 2, none⟩ = some (.string s) := by
    rw [hbb.cell (p := ⟨w.heap.size, 2, none⟩) (by simp), World.cell?_alloc_at _ _ _ _ rfl]; rfl
  rw [hsl] at hob hcb ⊢
  have HOB : Hid (Own wb (.slice (some ⟨gb, 0, none⟩) s.size capb) (bytesOf s) (some gb)) := hob
  have HBB : Hid (Below w.heap.size w wb) := HB.out.trans (hbb.mono (Nat.le_succ _))
  have HGB : Hid (w.heap.size < gb) := by unfold Hid; omega
  clear hob hbb hgb hcb hmb HB
  go_wp2_with fail
  refine (nRaw _ _).mono ?_
  rintro e w1 ⟨rfl, rfl⟩
  go_wp2_with (refine wpList_to_bytes _ rfl _ rfl s hsm rfl ?_)
  intro vc wc gc hoc hbc hgc
  have hx2 : wc.cell? ⟨w.heap.size, 2, none⟩ = some (.string s) := by rw [hbc.cell (p := ⟨w.heap.size, 2, none⟩) (cell_lt hx1)]; exact hx1
  have HOB2 : Hid (Own wc (.slice (some ⟨gb, 0, none⟩) s.size capb) (bytesOf s) (some gb)) := HOB.out.later hbc
  have HBC : Hid (Below w.heap.size w wc) := below_on HBB.out hbc
  have hstr := run_to_string s _ wc HOB2.out.bytes
  clear hoc hbc hgc hx1
  go_wp2_with fail
  refine (mRaw _ _).mono ?_
  rintro e w2 ⟨rfl, rfl⟩
  go_wp2_with fail
  refine (marked _ (bytesOf s) (some gb) 5 s.size w2 hsl HOB2.out (by decide) (by omega)).mono ?_
  rintro e w3 ⟨v3, r3, rfl, ho3, hg3, hr3, hn3⟩
  have HP : Hid (Below w.heap.size w w3) := HBC.out.trans (grow_below hg3 HBC.out.size (by intro g hg; simp at hg; have := HGB.out; omega))
  have hx4 : w3.cell? ⟨w.heap.size, 2, none⟩ = some (.string s) := by
    rw [World.cell?_of_block (w := w2) (a := ⟨w.heap.size, 2, none⟩) (hg3.block _ (cell_lt hx2) (by have := HGB.out; simp; omega))]; exact hx2
  clear ho3 hg3 hr3 hn3 hstr hx2
  go_wp2
  go_ret
  exact ⟨rfl, HP.out⟩

set_option maxHeartbeats 400000 in
set_option maxRecDepth 1000000 in
theorem nils11 (n : Nat) (s : ByteArray) (w : World) :
    Calls Try.prog 24 #[.pointer none, .pointer none, .agg #[.int .i64 11, .int .u64 n, .string s]] w fun e w' => e = .returned (.bool true) ∧ Below w.heap.size w w' := by
  have HB : Hid (Below w.heap.size w (w.alloc (.cells #[.int .i64 11, .int .u64 n, .string s] 51))) := (Below.refl _ _).alloc (Nat.le_refl _) _
  go_enter Try.func24, Try.ntmps24
  go_wp2_with fail
  refine (nBytes _).mono ?_
  rintro e w1 ⟨rfl, rfl⟩
  go_wp2_with fail
  refine (mBytes _).mono ?_
  rintro e w2 ⟨rfl, rfl⟩
  go_wp2_with fail
  refine (sameYes _ _ [] _ (BytesAt.nil _) (BytesAt.nil _)).mono ?_
  rintro e w3 ⟨rfl, n3, rfl⟩
  go_wp2_with fail
  refine (nLen _).mono ?_
  rintro e w4 ⟨rfl, rfl⟩
  go_wp2_with fail
  refine (marked _ [] none 8 0 _ rfl (Own.nil _) (by decide) (by decide)).mono ?_
  rintro e w5 ⟨v5, r5, rfl, ho5, hg5, hr5, hn5⟩
  have HP : Hid (Below w.heap.size w w5) := by
    refine Below.trans (below_drewN HB.out n3) (grow_below hg5 ?_ (by simp))
    simp
  clear ho5 hg5 hr5 hn5
  go_wp2
  go_ret
  exact ⟨rfl, HP.out⟩

theorem writesNil (k : Int) (n : Nat) (s : ByteArray) (w : World) (hn : n < 18446744073709551616) (hl : s.size ≤ 140737488351232) :
    Calls Try.prog 24 #[.pointer none, .pointer none, .agg #[.int .i64 k, .int .u64 n, .string s]] w fun e w' => e = .returned (.bool true) ∧ Below w.heap.size w w' := by
  by_cases h0 : k = 0
  · subst h0; exact nils0 n s w hn hl
  by_cases h1 : k = 1
  · subst h1; exact nils1 n s w hn hl
  by_cases h2 : k = 2
  · subst h2; exact nils2 n s w hn hl
  by_cases h3 : k = 3
  · subst h3; exact nils3 n s w hn hl
  by_cases h4 : k = 4
  · subst h4; exact nils4 n s w hn hl
  by_cases h5 : k = 5
  · subst h5; exact nils5 n s w hn hl
  by_cases h10 : k = 10
  · subst h10; exact nils10 n s w hn hl
  by_cases h11 : k = 11
  · subst h11; exact nils11 n s w
  · exact writesElse _ _ k n s w (by simpa using h0) (by simpa using h1) (by simpa using h2) (by simpa using h3) (by simpa using h4) (by simpa using h5) (by simpa using h10) (by simpa using h11)
end Go.Proofs.Ytbngedfpojnbjab
