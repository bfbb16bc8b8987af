import Derived.Test.YtklfmgkfcacfkaaRt
namespace Go.Proofs.Ytklfmgkfcacfkaa
open Go.RowKit Plain
set_option linter.unusedVariables false
set_option linter.unusedSimpArgs false

/-- A token is told by the first u bytes of R, right behind n bytes and not longer than the room. -/
def Told (R : List Nat) (n room u : Nat) (t : Tk) : Prop := 0 < u ∧ u ≤ R.length ∧ R.take u = t.enc ∧ t.g.right n = true ∧ t.len ≤ room
def NotTold (R : List Nat) (n room : Nat) : Prop := ∀ (t : Tk) (tail : List Nat), t.g.right n = true → t.len ≤ room → R ≠ t.enc ++ tail

def Tk.head (t : Tk) : Nat := t.pick (fun _ b => 2 * b.length) (fun _ n => 2 * n + 1)
theorem Tk.head_lit (g : Nat) (b : List Nat) : (Tk.lit g b).head = 2 * b.length := rfl
theorem Tk.head_mat (d n : Nat) : (Tk.mat d n).head = 2 * n + 1 := rfl
theorem enc_head (t : Tk) (tail : List Nat) (h : t.fits) : rd (t.enc ++ tail) = (t.head, (uv t.head).length, 0) := by
  cases t using Tk.elim with
  | lit g b => simp only [Tk.enc_lit, Tk.enc_mat, List.append_assoc]; exact rd_pre _ _ (by simp only [Tk.fits_lit, Tk.fits_mat] at h; omega)
  | mat d n => simp only [Tk.enc_lit, Tk.enc_mat, List.append_assoc]; exact rd_pre _ _ (by simp only [Tk.fits_lit, Tk.fits_mat] at h; omega)

theorem fits_of {t : Tk} {n room : Nat} (hr : t.g.right n = true) (hl : t.len ≤ room) (hroom : room ≤ 4096) : t.fits := by
  cases t using Tk.elim with
  | lit g b => simp only [Tk.fits_lit, Tk.fits_mat, Tk.len_lit, Tk.len_mat] at *; omega
  | mat d m => have := tk_right_mat.mp hr; simp only [Tk.fits_lit, Tk.fits_mat, Tk.len_lit, Tk.len_mat] at *; omega

theorem not_told_err {R : List Nat} {n room : Nat} (hroom : room ≤ 4096) (h : (rd R).2.2 ≠ 0) : NotTold R n room := by
  intro t tail hr hl e
  rw [e, enc_head t tail (fits_of hr hl hroom)] at h
  simp at h

theorem not_told_head {R : List Nat} {n room v u : Nat} (hroom : room ≤ 4096) (h : rd R = (v, u, 0)) (hv : room < v / 2) : NotTold R n room := by
  intro t tail hr hl e
  rw [e, enc_head t tail (fits_of hr hl hroom)] at h
  simp only [Prod.mk.injEq] at h
  cases t using Tk.elim with
  | lit g b => change b.length ≤ room at hl; simp only [Tk.head_lit] at h; omega
  | mat d m => change m ≤ room at hl; simp only [Tk.head_mat] at h; omega

theorem not_told_lit {R : List Nat} {n room v u : Nat} (hroom : room ≤ 4096) (h : rd R = (v, u, 0)) (hv : v % 2 = 0) (hbad : v / 2 = 0 ∨ R.length < u + v / 2) : NotTold R n room := by
  intro t tail hr hl e
  have hf := fits_of hr hl hroom
  have h' := h
  rw [e, enc_head t tail hf] at h'
  simp only [Prod.mk.injEq] at h'
  cases t using Tk.elim with
  | lit g b =>
    simp only [Tk.head_lit, Tk.head_mat] at h'
    have hb := List.length_pos_iff.mpr (tk_right_lit.mp hr)
    have hl2 : R.length = (uv (2 * b.length)).length + b.length + tail.length := by rw [e]; simp [Tk.enc_lit, Tk.enc_mat]; omega
    omega
  | mat d m => simp only [Tk.head_lit, Tk.head_mat] at h'; omega

theorem not_told_mat {R : List Nat} {n room v u : Nat} (hroom : room ≤ 4096) (h : rd R = (v, u, 0)) (hv : v % 2 = 1)
    (hbad : ∀ d x, rd (R.drop u) = (d, x, 0) → d ≤ 2048 → (Tk.mat d (v / 2)).g.right n = false) : NotTold R n room := by
  intro t tail hr hl e
  have hf := fits_of hr hl hroom
  have h' := h
  rw [e, enc_head t tail hf] at h'
  simp only [Prod.mk.injEq] at h'
  cases t using Tk.elim with
  | lit g b => simp only [Tk.head_lit, Tk.head_mat] at h'; omega
  | mat d m =>
    simp only [Tk.head_lit, Tk.head_mat] at h'
    have hm := tk_right_mat.mp hr
    have hd : R.drop u = uv d ++ tail := by
      rw [e, Tk.enc_mat, List.append_assoc, ← h'.2.1, List.drop_left]
    have := hbad d (uv d).length (by rw [hd]; exact rd_pre _ _ (by omega)) (by omega)
    rw [show v / 2 = m by omega, hr] at this
    simp at this

theorem told_lit {R : List Nat} {n room v u g : Nat} (h : R = uv v ++ R.drop u) (hu : u = (uv v).length) (hv : v % 2 = 0) (hr : v / 2 ≤ room) (h0 : 0 < v / 2) (hfit : u + v / 2 ≤ R.length) : Told R n room (u + v / 2) (.lit g ((R.drop u).take (v / 2))) := by
  have hl : ((R.drop u).take (v / 2)).length = v / 2 := by rw [List.length_take, List.length_drop]; omega
  refine ⟨by omega, hfit, ?_, tk_right_lit.mpr (List.length_pos_iff.mp (by omega)), by simp only [Tk.len_lit, Tk.len_mat]; omega⟩
  rw [Tk.enc_lit, hl, show 2 * (v / 2) = v by omega]
  conv => lhs; rw [h]
  rw [List.take_append, hu, List.take_of_length_le (by omega), show (uv v).length + v / 2 - (uv v).length = v / 2 by omega]

theorem told_mat {R : List Nat} {n room v u d x : Nat} (h : R = uv v ++ R.drop u) (hu : u = (uv v).length) (hv : v % 2 = 1) (hr : v / 2 ≤ room) (h2 : R.drop u = uv d ++ (R.drop u).drop x) (hx : x = (uv d).length) (hright : (Tk.mat d (v / 2)).g.right n = true) : Told R n room (u + x) (.mat d (v / 2)) := by
  have hp := uv_pos v
  have hl : u + x ≤ R.length := by
    have h3 := congrArg List.length h
    have h4 := congrArg List.length h2
    simp only [List.length_append, List.length_drop] at h3 h4
    omega
  refine ⟨by omega, hl, ?_, hright, by simp only [Tk.len_lit, Tk.len_mat]; exact hr⟩
  rw [Tk.enc_mat, show 2 * (v / 2) + 1 = v by omega]
  conv => lhs; rw [h]
  rw [List.take_append, hu, List.take_of_length_le (by omega), show (uv v).length + x - (uv v).length = x by omega, ← hu]
  conv => lhs; rw [h2]
  rw [hx, List.take_left]

set_option maxHeartbeats 8000000 in
set_option maxRecDepth 1000000 in
theorem readTokenOf (R : List Nat) (b off cap n room : Nat) (w : World) (h : BytesAt w (.slice (some ⟨b, off, none⟩) R.length cap) R) (hn : n ≤ 4096) (hroom : room ≤ 4096) :
    Calls Try.prog 49 #[.slice (some ⟨b, off, none⟩) R.length cap, .int .i64 n, .int .i64 room] w fun e w' => ∃ tv u, e = .returned (.tuple #[tv, .int .i64 (u : Nat)]) ∧ Below w.heap.size w w' ∧ ((u = 0 ∧ tv = noTok ∧ NotTold R n room) ∨ ∃ t, tv = t.val ∧ Told R n room u t ∧ TNew w w' t) := by
  have HB : Hid (BytesAt w (.slice (some ⟨b, off, none⟩) R.length cap) R) := h
  have hlc : R.length ≤ cap := by obtain ⟨a', cap', e, h1, _⟩ := h; simp only [Value.slice.injEq] at e; omega
  have hcm : cap ≤ 2 ^ 63 - 1 := by obtain ⟨a', cap', e, _, h1, _⟩ := h; simp only [Value.slice.injEq] at e; unfold maxLen at h1; omega
  have hby : ∀ c ∈ R, c < 256 := h.byte
  clear h
  have HA : Hid (Below w.heap.size w (w.alloc (.cells #[.slice none 0 0, .int .i64 0, .int .i64 0] 28))) := (Below.refl _ _).alloc (Nat.le_refl _) _
  have HC1 : Hid (Calls Try.prog 48 #[.slice (some ⟨b, off, none⟩) R.length cap] (w.alloc (.cells #[.slice none 0 0, .int .i64 0, .int .i64 0] 28)) fun e w' => e = .returned (.tuple #[.int .u64 (rd R).1, .int .i64 (rd R).2.1, .int .i64 (rd R).2.2]) ∧ w' = w.alloc (.cells #[.slice none 0 0, .int .i64 0, .int .i64 0] 28)) := readUvarint _ R _ (HB.out.later HA.out)
  by_cases herr : (rd R).2.2 = 0
  · obtain ⟨v, hv64, hrd, hsplit, hul⟩ := rd_ok R hby herr
    obtain ⟨U, hU⟩ : ∃ U, (uv v).length = U := ⟨_, rfl⟩
    rw [hU] at hrd hsplit hul
    rw [hrd] at HC1
    have HRD : Hid (rd R = (v, U, 0)) := hrd
    have HSP : Hid (R = uv v ++ R.drop U ∧ U = (uv v).length) := ⟨hsplit, hU.symm⟩
    have HBy : Hid (∀ c ∈ R, c < 256) := hby
    have hU1 : 1 ≤ U := by rw [← hU]; exact uv_pos v
    have hU10 : U ≤ 10 := by rw [← hU]; exact uv_len10 (by omega)
    clear hrd hsplit hU herr hby
    obtain ⟨S, hS⟩ : ∃ S, v / 2 = S := ⟨_, rfl⟩
    have hSI : (v : Int) / 2 = (S : Int) := by omega
    have HS : Hid (v / 2 = S) := hS
    have hS64 : S < 9223372036854775808 := by omega
    clear hS
    obtain ⟨W, hW⟩ : ∃ W, w.alloc (.cells #[.slice none 0 0, .int .i64 0, .int .i64 0] 28) = W := ⟨_, rfl⟩
    have HWB : Hid (W.heap[w.heap.size]? = some (.cells #[.slice none 0 0, .int .i64 0, .int .i64 0] 28) ∧ W.heap.size = w.heap.size + 1) := by unfold Hid; rw [← hW]; exact ⟨heap_alloc_new _ _, by simp⟩
    by_cases hbig : room < S
    · have HNT : Hid (NotTold R n room) := not_told_head hroom HRD.out (by rw [HS.out]; exact hbig)
      clear hW
      go_enter Try.func49, Try.ntmps49
      go_wp2_with fail
      refine HC1.out.mono ?_
      rintro e w1 ⟨rfl, rfl⟩
      go_wp2
      refine bodyPost_ret (v := .tuple #[noTok, .int .i64 0]) (by simp [results, Try.results49, go_sem, noTok]) rfl ⟨_, 0, rfl, HA.out, .inl ⟨rfl, rfl, HNT.out⟩⟩
    · rcases Nat.mod_two_eq_zero_or_one v with hpar | hpar
      · have hp1 : (v : Int) % 2 = 0 := by omega
        have hp2 : ((v : Int) % 2 == 0) = true := by simp; omega
        have HPar : Hid (v % 2 = 0) := hpar
        clear hpar
        by_cases hbad : S = 0 ∨ R.length < U + S
        · have HNT : Hid (NotTold R n room) := not_told_lit hroom HRD.out HPar.out (by rw [HS.out]; exact hbad)
          have HL : Hid (Calls Try.prog 60 #[.slice (some ⟨b, off, none⟩) R.length cap, .int .i64 U, .int .i64 S] W fun e w' => e = .returned (.tuple #[noTok, .int .i64 0]) ∧ Below W.heap.size W w') := by
            refine readLitNone _ R U S W ?_ hul (by omega) hbad
            rw [← hW]; exact HB.out.later HA.out
          rw [hW] at HC1 HA
          go_enter Try.func49, Try.ntmps49
          go_wp2_with fail
          clear hW
          refine HC1.out.mono ?_
          rintro e w1 ⟨rfl, rfl⟩
          go_wp2_with fail
          refine HL.out.mono ?_
          rintro e w2 ⟨rfl, hb2⟩
          have HF : Hid (Below w.heap.size w w2) := HA.out.trans (hb2.mono HA.out.size)
          have hblk : w2.heap[w.heap.size]? = some (.cells #[.slice none 0 0, .int .i64 0, .int .i64 0] 28) := by rw [hb2.block _ (by rw [HWB.out.2]; omega)]; exact HWB.out.1
          obtain ⟨c0, c1, c2, f0, f1, f2⟩ := cells3 hblk
          have HG : Hid (∀ x y z, w2.grownBy (((w2.setCell ⟨w.heap.size, 0, none⟩ x).setCell ⟨w.heap.size, 1, none⟩ y).setCell ⟨w.heap.size, 2, none⟩ z) (some w.heap.size)) := grow_set3 w2 _
          clear hb2 hblk
          unfold noTok
          go_wp2
          refine bodyPost_ret (v := .tuple #[noTok, .int .i64 0]) (by simp [results, Try.results49, go_sem, c0, c1, c2, noTok]) rfl ⟨_, 0, rfl, HF.out.trans (grow_below (HG.out _ _ _) HF.out.size (by simp)), .inl ⟨rfl, rfl, HNT.out⟩⟩
        · have hS0 : 0 < S := by omega
          have hfit : U + S ≤ R.length := by omega
          clear hbad
          have HL : Hid (Calls Try.prog 60 #[.slice (some ⟨b, off, none⟩) R.length cap, .int .i64 U, .int .i64 S] W fun e w' => ∃ g, e = .returned (.tuple #[(Tk.lit g ((R.drop U).take S)).val, .int .i64 (U + S : Nat)]) ∧ W.heap.size ≤ g ∧ Own w' (.slice (some ⟨g, 0, none⟩) ((R.drop U).take S).length ((R.drop U).take S).length) ((R.drop U).take S) (some g) ∧ Below W.heap.size W w') := by
            refine readLitOk R b off cap U S W ?_ hS0 (by omega) hfit
            rw [← hW]; exact HB.out.later HA.out
          have HTo : Hid (∀ g, Told R n room (U + S) (.lit g ((R.drop U).take S))) := fun g => by
            have := told_lit (n := n) (room := room) (g := g) HSP.out.1 HSP.out.2 HPar.out (by rw [HS.out]; omega) (by rw [HS.out]; omega) (by rw [HS.out]; omega)
            rwa [HS.out] at this
          obtain ⟨Q, hQ⟩ : ∃ Q, (R.drop U).take S = Q := ⟨_, rfl⟩
          have hQl : Q.length = S := by rw [← hQ, List.length_take, List.length_drop]; omega
          rw [hQ] at HL HTo
          clear hQ
          rw [hW] at HC1 HA
          go_enter Try.func49, Try.ntmps49
          go_wp2_with fail
          clear hW
          refine HC1.out.mono ?_
          rintro e w1 ⟨rfl, rfl⟩
          go_wp2_with fail
          refine HL.out.mono ?_
          rintro e w2 ⟨g, rfl, hg, hown, hb2⟩
          have hg2 : w.heap.size < g := by have := HWB.out.2; omega
          have HOw : Hid (Own w2 (.slice (some ⟨g, 0, none⟩) Q.length Q.length) Q (some g)) := hown
          clear hown hg
          have HF : Hid (Below w.heap.size w w2) := HA.out.trans (hb2.mono HA.out.size)
          have hblk : w2.heap[w.heap.size]? = some (.cells #[.slice none 0 0, .int .i64 0, .int .i64 0] 28) := by rw [hb2.block _ (by rw [HWB.out.2]; omega)]; exact HWB.out.1
          obtain ⟨c0, c1, c2, f0, f1, f2⟩ := cells3 hblk
          have HG : Hid (∀ x y z, w2.grownBy (((w2.setCell ⟨w.heap.size, 0, none⟩ x).setCell ⟨w.heap.size, 1, none⟩ y).setCell ⟨w.heap.size, 2, none⟩ z) (some w.heap.size)) := grow_set3 w2 _
          clear hb2 hblk
          rw [show (Tk.lit g Q).val = .agg #[.slice (some ⟨g, 0, none⟩) Q.length Q.length, .int .i64 0, .int .i64 0] from rfl]
          go_wp2
          refine bodyPost_ret (v := .tuple #[(Tk.lit g Q).val, .int .i64 (U + S : Nat)]) ?_ rfl ⟨_, U + S, rfl, HF.out.trans (grow_below (HG.out _ _ _) HF.out.size (by simp)), .inr ⟨.lit g Q, rfl, HTo.out g, fun g' l' e => ?_⟩⟩
          · simp [results, Try.results49, go_sem, c0, c1, c2, Tk.val, Tk.g_lit, Tk.g_mat, Tg.val]
            exact hQl.symm
          · simp only [Tk.lit_inj] at e
            obtain ⟨rfl, rfl⟩ := e
            exact ⟨List.length_pos_iff.mp (by omega), by omega, HOw.out.kept (HG.out _ _ _) (.inr (by simp; omega))⟩
      · have hp1 : (v : Int) % 2 = 1 := by omega
        have hp2 : ((v : Int) % 2 == 0) = false := by simp; omega
        have HPar : Hid (v % 2 = 1) := hpar
        clear hpar
        have HWBy : Hid (BytesAt W (.slice (some ⟨b, off, none⟩) R.length cap) R) := by unfold Hid; rw [← hW]; exact HB.out.later HA.out
        rw [hW] at HC1 HA
        obtain ⟨b0, b1, b2, k0, k1, k2⟩ := cells3 HWB.out.1
        have HG1 : Hid (∀ x y z, W.grownBy (((W.setCell ⟨w.heap.size, 0, none⟩ x).setCell ⟨w.heap.size, 1, none⟩ y).setCell ⟨w.heap.size, 2, none⟩ z) (some w.heap.size)) := grow_set3 W _
        by_cases hRU : R.length = U
        · have HNT : Hid (NotTold R n room) := not_told_mat hroom HRD.out HPar.out (fun d x h => by
            rw [List.drop_eq_nil_of_le (by omega)] at h
            exact absurd h (by simp [rd, rdGo]))
          have HC2 : Hid (∀ a c, c ≤ maxLen → Calls Try.prog 48 #[.slice a 0 c] W fun e w' => e = .returned (.tuple #[.int .u64 0, .int .i64 0, .int .i64 10]) ∧ w' = W) := fun a c hc => readUvarint _ [] W (bytes_none W a c hc)
          have HRU : Hid (R.length = U) := hRU
          have hRU2 : R.length - U = 0 := by omega
          clear hRU
          by_cases hcU : cap = U
          · subst hcU
            go_enter Try.func49, Try.ntmps49
            go_wp2_with fail
            clear hW
            refine HC1.out.mono ?_
            rintro e w1 ⟨rfl, rfl⟩
            go_wp2_with fail
            refine (HC2.out _ _ (by unfold maxLen; omega)).mono ?_
            rintro e w2 ⟨rfl, rfl⟩
            go_wp2
            refine bodyPost_ret (v := .tuple #[noTok, .int .i64 0]) (by simp [results, Try.results49, go_sem, b0, b1, b2, noTok]) rfl ⟨_, 0, rfl, HA.out.trans (grow_below (HG1.out _ _ _) HA.out.size (by simp)), .inl ⟨rfl, rfl, HNT.out⟩⟩
          · go_enter Try.func49, Try.ntmps49
            go_wp2_with fail
            clear hW
            refine HC1.out.mono ?_
            rintro e w1 ⟨rfl, rfl⟩
            go_wp2_with fail
            refine (HC2.out _ _ (by unfold maxLen; omega)).mono ?_
            rintro e w2 ⟨rfl, rfl⟩
            go_wp2
            refine bodyPost_ret (v := .tuple #[noTok, .int .i64 0]) (by simp [results, Try.results49, go_sem, b0, b1, b2, noTok]) rfl ⟨_, 0, rfl, HA.out.trans (grow_below (HG1.out _ _ _) HA.out.size (by simp)), .inl ⟨rfl, rfl, HNT.out⟩⟩
        · have hcU : ¬ cap = U := by omega
          have HC2 : Hid (Calls Try.prog 48 #[.slice (some ⟨b, off + U, none⟩) (R.length - U) (cap - U)] W fun e w' => e = .returned (.tuple #[.int .u64 (rd (R.drop U)).1, .int .i64 (rd (R.drop U)).2.1, .int .i64 (rd (R.drop U)).2.2]) ∧ w' = W) := readUvarint _ (R.drop U) W (HWBy.out.dropAt U hul)
          by_cases herr2 : (rd (R.drop U)).2.2 = 0
          · obtain ⟨d, hd64, hrd2, hsplit2, hul2⟩ := rd_ok (R.drop U) (fun c hc => HBy.out c (List.mem_of_mem_drop hc)) herr2
            obtain ⟨X, hX⟩ : ∃ X, (uv d).length = X := ⟨_, rfl⟩
            rw [hX] at hrd2 hsplit2 hul2
            rw [hrd2] at HC2
            have HRD2 : Hid (rd (R.drop U) = (d, X, 0)) := hrd2
            have HSP2 : Hid (R.drop U = uv d ++ (R.drop U).drop X ∧ X = (uv d).length) := ⟨hsplit2, hX.symm⟩
            have hX10 : X ≤ 10 := by rw [← hX]; exact uv_len10 (by omega)
            clear hrd2 hsplit2 hX herr2 hul2
            by_cases hd2 : 2048 < d
            · have HNT : Hid (NotTold R n room) := not_told_mat hroom HRD.out HPar.out (fun d' x h hle => by
                rw [HRD2.out] at h
                simp only [Prod.mk.injEq] at h
                omega)
              go_enter Try.func49, Try.ntmps49
              go_wp2_with fail
              clear hW
              refine HC1.out.mono ?_
              rintro e w1 ⟨rfl, rfl⟩
              go_wp2_with fail
              refine HC2.out.mono ?_
              rintro e w2 ⟨rfl, rfl⟩
              go_wp2
              refine bodyPost_ret (v := .tuple #[noTok, .int .i64 0]) (by simp [results, Try.results49, go_sem, b0, b1, b2, noTok]) rfl ⟨_, 0, rfl, HA.out.trans (grow_below (HG1.out _ _ _) HA.out.size (by simp)), .inl ⟨rfl, rfl, HNT.out⟩⟩
            · have hd4 : d ≤ 2048 := by omega
              have HA2 : Hid (Below W.heap.size W (W.alloc (.cells #[.slice none 0 0, .int .i64 d, .int .i64 S] 28))) := (Below.refl _ _).alloc (Nat.le_refl _) _
              have HRi : Hid (Calls Try.prog 53 #[.agg #[.slice none 0 0, .int .i64 d, .int .i64 S], .int .i64 n] (W.alloc (.cells #[.slice none 0 0, .int .i64 d, .int .i64 S] 28)) fun e w' => e = .returned (.bool ((Tk.mat d S).g.right n)) ∧ Below (W.alloc (.cells #[.slice none 0 0, .int .i64 d, .int .i64 S] 28)).heap.size (W.alloc (.cells #[.slice none 0 0, .int .i64 d, .int .i64 S] 28)) w') :=
                rightOf (Tk.mat d S).g n _ ⟨BytesAt.nil _, by simp [Tk.g_lit, Tk.g_mat], by simp only [Tk.g_lit, Tk.g_mat]; omega, by simp only [Tk.g_lit, Tk.g_mat]; omega, by simp only [Tk.g_lit, Tk.g_mat]; omega, by simp only [Tk.g_lit, Tk.g_mat]; omega⟩ hn
              go_enter Try.func49, Try.ntmps49
              go_wp2_with fail
              clear hW
              refine HC1.out.mono ?_
              rintro e w1 ⟨rfl, rfl⟩
              go_wp2_with fail
              refine HC2.out.mono ?_
              rintro e w2 ⟨rfl, rfl⟩
              go_wp2_with fail
              refine HRi.out.mono ?_
              rintro e w3 ⟨rfl, hb3⟩
              have hblk1 : w3.heap[w.heap.size]? = some (.cells #[.slice none 0 0, .int .i64 0, .int .i64 0] 28) := by
                rw [hb3.block _ (by have := HWB.out.2; simp; omega), HA2.out.block _ (by have := HWB.out.2; omega)]; exact HWB.out.1
              have hblk2 : w3.heap[w2.heap.size]? = some (.cells #[.slice none 0 0, .int .i64 d, .int .i64 S] 28) := by
                rw [hb3.block _ (by simp)]; exact heap_alloc_new _ _
              have HF : Hid (Below w.heap.size w w3) := (HA.out.trans (HA2.out.mono HA.out.size)).trans (hb3.mono (by have := HA.out.size; simp; omega))
              obtain ⟨c0, c1, c2, f0, f1, f2⟩ := cells3 hblk1
              obtain ⟨t0, t1, t2, _, _, _⟩ := cells3 hblk2
              have HG : Hid (∀ x y z, w3.grownBy (((w3.setCell ⟨w.heap.size, 0, none⟩ x).setCell ⟨w.heap.size, 1, none⟩ y).setCell ⟨w.heap.size, 2, none⟩ z) (some w.heap.size)) := grow_set3 w3 _
              clear hb3 hblk1 hblk2
              cases hr : (Tk.mat d S).g.right n with
              | false =>
                have HNT : Hid (NotTold R n room) := not_told_mat hroom HRD.out HPar.out (fun d' x h hle => by
                  rw [HRD2.out] at h
                  simp only [Prod.mk.injEq] at h
                  rw [← h.1, HS.out]; exact hr)
                clear hr
                go_wp2
                refine bodyPost_ret (v := .tuple #[noTok, .int .i64 0]) (by simp [results, Try.results49, go_sem, c0, c1, c2, noTok]) rfl ⟨_, 0, rfl, HF.out.trans (grow_below (HG.out _ _ _) HF.out.size (by simp)), .inl ⟨rfl, rfl, HNT.out⟩⟩
              | true =>
                have HTo : Hid (Told R n room (U + X) (.mat d S)) := by
                  have := told_mat (n := n) (room := room) HSP.out.1 HSP.out.2 HPar.out (by rw [HS.out]; omega) HSP2.out.1 HSP2.out.2 (by rw [HS.out]; exact hr)
                  rwa [HS.out] at this
                clear hr
                go_wp2
                refine bodyPost_ret (v := .tuple #[(Tk.mat d S).val, .int .i64 (U + X : Nat)]) ?_ rfl ⟨_, U + X, rfl, HF.out.trans (grow_below (HG.out _ _ _) HF.out.size (by simp)), .inr ⟨.mat d S, rfl, HTo.out, fun g' l' e => by simp at e⟩⟩
                simp [results, Try.results49, go_sem, c0, c1, c2, Tk.val, Tk.g_lit, Tk.g_mat, Tg.val]
          · have HNT : Hid (NotTold R n room) := not_told_mat hroom HRD.out HPar.out (fun d x h => by
              rw [h] at herr2
              simp at herr2)
            have hr3 : rd (R.drop U) = (0, 0, 10) ∨ rd (R.drop U) = (0, 0, 11) := rd_refused (R.drop U) 0 0 herr2
            clear herr2
            rcases hr3 with hr3 | hr3
            all_goals
              rw [hr3] at HC2
              clear hr3
              go_enter Try.func49, Try.ntmps49
              go_wp2_with fail
              clear hW
              refine HC1.out.mono ?_
              rintro e w1 ⟨rfl, rfl⟩
              go_wp2_with fail
              refine HC2.out.mono ?_
              rintro e w2 ⟨rfl, rfl⟩
              go_wp2
              refine bodyPost_ret (v := .tuple #[noTok, .int .i64 0]) (by simp [results, Try.results49, go_sem, b0, b1, b2, noTok]) rfl ⟨_, 0, rfl, HA.out.trans (grow_below (HG1.out _ _ _) HA.out.size (by simp)), .inl ⟨rfl, rfl, HNT.out⟩⟩
  · have HNT : Hid (NotTold R n room) := not_told_err hroom herr
    have hr3 : rd R = (0, 0, 10) ∨ rd R = (0, 0, 11) := rd_refused R 0 0 herr
    clear hby herr
    rcases hr3 with hr3 | hr3
    all_goals
      rw [hr3] at HC1
      clear hr3
      go_enter Try.func49, Try.ntmps49
      go_wp2_with fail
      refine HC1.out.mono ?_
      rintro e w1 ⟨rfl, rfl⟩
      go_wp2
      refine bodyPost_ret (v := .tuple #[noTok, .int .i64 0]) (by simp [results, Try.results49, go_sem, noTok]) rfl ⟨_, 0, rfl, HA.out, .inl ⟨rfl, rfl, HNT.out⟩⟩
end Go.Proofs.Ytklfmgkfcacfkaa
