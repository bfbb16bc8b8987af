import Derived.Test.YtgpmhflndcppeaaQp08
import Derived.Test.YtgpmhflndcppeaaQp07
import Derived.Test.YtgpmhflndcppeaaQp06
import Derived.Laws.Small
/-! What the operations on names keep true of a disk. -/
namespace Go.Proofs.Ytgpmhflndcppeaa
open Go.RowKit Go.Maps Plain
set_option linter.unusedVariables false
set_option linter.unusedSimpArgs false

theorem Dk.Dok.did {k : Dk} {n : Nat} {c : DC} (h : k.Dok (n + 1)) (hcnt : k.chg.length ≤ n) (hc : c.can k.L) (hr : ∀ p ∈ DC.on k.L c, k.live p.2) (hl : (DC.on k.L c).length ≤ 65536) (hn : n ≤ 4398046511102) : (k.did c).Dok (n + 1) := by
  refine ⟨⟨hr, h.ok.fok, h.ok.ops, h.ok.fuse⟩, h.dir.snoc (by rw [← h.eq]; exact hc) (by rw [← h.eq]; omega) (by omega), ?_, ?_, hl⟩
  · show DC.on k.L c = dst k.Ld (k.chg ++ [c])
    rw [dst_snoc, ← h.eq]
  · show (k.chg ++ [c]).length ≤ n + 1
    simp; omega
theorem size_list (s : ByteArray) (hs : s.size ≤ maxLen) : s.data.toList.length ≤ maxLen := by rw [Array.length_toList]; exact hs
theorem remove_dok {k : Dk} {n : Nat} {s : ByteArray} (h : k.Dok n) (hs : s.size ≤ maxLen) (hn : n ≤ 4398046511102) : (removeK k s).2.Dok (n + 1) := by
  unfold removeK
  split
  · rename_i h0
    obtain ⟨G, hl, _⟩ := fnd_ok h0
    split
    · refine (h.spent.uses _).did h.cnt ⟨size_list s hs, G, hl⟩ (fun p hp => ?_) ?_ hn
      · exact h.ok.refs p (mem_del hp)
      · show (del k.L s.data.toList).length ≤ 65536
        have := len_del k.L s.data.toList
        have := h.few
        omega
    · exact h.spent
  · exact h.more (by omega)
theorem len_del_lt {L : Dir} {k : Nm} (h : ∃ p ∈ L, p.1 = k) : (del L k).length < L.length := by
  unfold del
  obtain ⟨p, hp, e⟩ := h
  exact List.length_filter_lt_length_iff_exists.mpr ⟨p, hp, by simp [e]⟩
theorem mem_ins_of {x p : Nm × Nat} : ∀ {L : Dir}, p ∈ L → p ∈ ins x L
  | [], h => by simp at h
  | y :: r, h => by
    unfold ins
    split
    · simp at h ⊢
      exact .inr h
    · simp at h ⊢
      rcases h with h | h
      · exact .inl h
      · exact .inr (mem_ins_of h)
theorem rename_dok {k : Dk} {n : Nat} {s t : ByteArray} (h : k.Dok n) (hs : s.size ≤ maxLen) (ht : t.size ≤ maxLen) (hn : n ≤ 4398046511102) : (renameK k s t).2.Dok (n + 1) := by
  unfold renameK
  split
  · exact h.more (by omega)
  · split
    · exact h.more (by omega)
    · rename_i hst
      split
      · rename_i h0
        obtain ⟨G, hl, _⟩ := fnd_ok h0
        have hl' : look k.L s.data.toList = some G := hl
        have hne : s.data.toList ≠ t.data.toList := fun e => hst (WideShapes.bytes_inj e)
        have hon : DC.on k.L (DC.mv s.data.toList t.data.toList) = del (put k.L t.data.toList G) s.data.toList := by rw [DC.on_mv, hl']; rfl
        split
        · refine (h.spent.uses _).did h.cnt ⟨size_list s hs, size_list t ht, G, hl⟩ (fun p hp => ?_) ?_ hn
          · have hp' : p ∈ DC.on k.L (DC.mv s.data.toList t.data.toList) := hp
            rw [hon] at hp'
            rcases mem_put (mem_del hp') with e | e
            · rw [e]; exact h.ok.refs (s.data.toList, G) (look_mem hl)
            · exact h.ok.refs p e
          · show (DC.on k.L (DC.mv s.data.toList t.data.toList)).length ≤ 65536
            rw [hon]
            have h1 : (del (put k.L t.data.toList G) s.data.toList).length < (put k.L t.data.toList G).length := by
              refine len_del_lt ⟨(s.data.toList, G), ?_, rfl⟩
              unfold put
              refine mem_ins_of (List.mem_filter.mpr ⟨look_mem hl, ?_⟩)
              show (!(s.data.toList == t.data.toList)) = true
              rw [beq_eq_false_iff_ne.mpr hne]; rfl
            have h2 := len_put k.L t.data.toList G
            have := h.few
            omega
        · exact h.spent
      · exact h.more (by omega)
theorem Dk.Dok.addFile {k : Dk} {n : Nat} (h : k.Dok n) (G : Nat) : (k.addFile G).Dok n := by
  refine ⟨⟨fun p hp => .inl (h.ok.refs p hp), fun G' hG' => ?_, h.ok.ops, h.ok.fuse⟩, h.dir, h.eq, h.cnt, h.few⟩
  show (upd k.file G ⟨[], [], []⟩ G').Ok ∧ (upd k.file G ⟨[], [], []⟩ G').chg.length ≤ n
  by_cases e : G' = G
  · subst e; rw [upd_same]
    exact ⟨⟨rfl, fun j m hj => by simp at hj, fun j => by simp [fst], by simp⟩, by simp⟩
  · rw [upd_other _ _ _ _ e]; exact h.ok.fok G' (hG'.resolve_right e)
theorem create_dok {k : Dk} {n G : Nat} {s : ByteArray} (h : k.Dok n) (hs : s.size ≤ maxLen) (hn : n ≤ 4398046511102) : (createK k s G).2.Dok (n + 1) := by
  unfold createK
  split
  · exact h.more (by omega)
  · split
    · exact h.more (by omega)
    · split
      · exact h.more (by omega)
      · rename_i hf
        split
        · refine (h.spent.addFile G).did h.cnt (size_list s hs) (fun p hp => ?_) ?_ hn
          · have hp' : p ∈ put k.L s.data.toList G := hp
            rcases mem_put hp' with e | e
            · rw [e]; exact .inr rfl
            · exact .inl (h.ok.refs p e)
          · show (put k.L s.data.toList G).length ≤ 65536
            have := len_put k.L s.data.toList G
            omega
        · exact h.spent
end Go.Proofs.Ytgpmhflndcppeaa

/-! What a program sees, and what a loss of power leaves: the images. -/
namespace Go.Proofs.Ytgpmhflndcppeaa
open Go.RowKit Go.Maps Plain
set_option linter.unusedVariables false
set_option linter.unusedSimpArgs false

theorem FileAt.vseen {w : World} {G : Nat} {f : Fl} {S : Nat → Prop} (h : FileAt w G f S) : ∃ a n c r, w.cell? ⟨G, 0, none⟩ = some (.slice a n c) ∧ Own w (.slice a n c) f.seen r := by
  obtain ⟨vs, vd, vc, rs, rd, rc, vals, blk, hf, _⟩ := h
  obtain ⟨c0, _⟩ := fcells hf.blkG
  have h1 := hf.seen
  obtain ⟨a, n, c, rfl⟩ := isSliceO h1
  exact ⟨a, n, c, rs, c0, h1⟩
theorem image1Of (w : World) (G : Nat) (f : Fl) (S : Nat → Prop) (h : FileAt w G f S) (hl : f.seen.length ≤ 140737488355328) :
    Calls Try.prog 32 #[.pointer (some ⟨G, 0, none⟩)] w fun e w' => ∃ a n c q, e = .returned (.slice a n c) ∧ Own w' (.slice a n c) f.seen q ∧ (∀ g, q = some g → w.heap.size ≤ g) ∧ Below w.heap.size w w' := by
  obtain ⟨a, n, c, r, c0, ho⟩ := h.vseen
  have HC : Hid (Calls Try.prog 33 #[.slice a n c] w fun e w' => ∃ v' r', e = .returned v' ∧ Own w' v' f.seen r' ∧ Below w.heap.size w w' ∧ (∀ g, r' = some g → w.heap.size ≤ g)) := cloneOf _ _ w ho.bytes hl
  clear h ho
  go_enter Try.func32, Try.ntmps32
  go_wp2_with fail
  refine HC.out.mono ?_
  rintro e w1 ⟨v1, r1, rfl, ho1, hb1, hr1⟩
  obtain ⟨a1, n1, c1, rfl⟩ := isSliceO ho1
  have HP : Hid (∃ a n c q, Ending.returned (.slice a1 n1 c1) = .returned (.slice a n c) ∧ Own w1 (.slice a n c) f.seen q ∧ (∀ g, q = some g → w.heap.size ≤ g) ∧ Below w.heap.size w w1) := ⟨_, _, _, r1, rfl, ho1, hr1, hb1⟩
  clear ho1 hb1 hr1
  go_wp2
  go_ret
  exact HP.out
theorem crash1Of (w : World) (G : Nat) (f : Fl) (S : Nat → Prop) (C P : Nat) (v : Value) (ps : List Int) (h : FileAt w G f S) (hf : f.Ok) (hc : ChoAt w C v ps) (hSC : ¬ S C) (hP : w.cell? ⟨P, 0, none⟩ = some (.pointer (some ⟨C, 0, none⟩))) :
    Calls Try.prog 21 #[.pointer (some ⟨G, 0, none⟩), .pointer (some ⟨P, 0, none⟩)] w (LvPost ps f C w) := by
  have HC : Hid (Calls Try.prog 22 #[.pointer (some ⟨G, 0, none⟩), .pointer (some ⟨C, 0, none⟩)] w (LvPost ps f C w)) := leavesOf w G f S C v ps h hf hc hSC
  clear h hf hc hSC
  go_enter Try.func21, Try.ntmps21
  go_wp2_with fail
  refine HC.out.mono ?_
  rintro e w1 ⟨a1, n1, c1, r1, rfl, h1⟩
  have HP : Hid (LvPost ps f C w (.returned (.slice a1 n1 c1)) w1) := ⟨a1, n1, c1, r1, rfl, h1⟩
  clear h1
  go_wp2
  go_ret
  exact HP.out

/-- What a program sees. -/
def imK (k : Dk) : List (Nm × List Nat) := imgL k.L (fun (_ : Unit) G => (k.file G).seen) (fun _ _ => ()) () (nms k.L)
theorem enter_image1 (a : Value) (W : World) : (callFunc 32 #[a]).run Try.prog W = .ok (.enter 32 #[a]) W := by kernel_rfl
theorem enter_crash1 (a b : Value) (W : World) : (callFunc 21 #[a, b]).run Try.prog W = .ok (.enter 21 #[a, b]) W := by kernel_rfl

set_option maxHeartbeats 1000000 in
theorem imageAll (w : World) (d : Nat) (k : Dk) (n : Nat) (S : Nat → Prop) (h : DiskAt w d k S) (hk : k.Dok n) :
    Calls Try.prog 10 #[.pointer (some ⟨d, 0, none⟩)] w fun e w' => ∃ a l c, e = .returned (.slice a l c) ∧ ImgAt w' (.slice a l c) (imK k) w.heap.size ∧ Below w.heap.size w w' := by
  obtain ⟨ms, md, vc, rc, Sf, hm, hS1, hS2, hS3⟩ := h
  have hc := hm.at0.1
  have HI : Hid (Calls Try.prog 20 #[.map ms, .func (.func 32) #[] #[]] w (ImgPost (fun (_ : Unit) w1 => Below w.heap.size w w1) (imK k) () none w)) := by
    refine imageOf0 w ms k.L 32 none (fun (_ : Unit) w1 => Below w.heap.size w w1) (fun _ G => (k.file G).seen) (fun _ _ => ()) () hm.seen (by have := hk.few; omega) (Below.refl _ _) (by simp) (fun _ w1 w2 h1 h2 => h1.trans h2) enter_image1 ?_
    intro s w1 nm G hb _ hG
    have hl : k.live G := hk.ok.refs _ (look_mem hG)
    refine (image1Of w1 G (k.file G) (Sf G) (((hm.later hb)).files G hl) (by have := (hk.ok.fok G hl).1.seenLen; omega)).mono ?_
    rintro e w2 ⟨a, l, c, q, rfl, ho, hq, hb2⟩
    exact ⟨a, l, c, q, rfl, ho, hq, hb.trans (hb2.mono hb.size), below_grow hb2 _⟩
  clear hm hS1 hS2 hS3 hk
  go_enter Try.func10, Try.ntmps10
  go_wp2_with fail
  refine HI.out.mono ?_
  rintro e w1 ⟨v, rfl, hi, hb, _⟩
  obtain ⟨a, l, c, rfl⟩ : ∃ a l c, v = .slice a l c := by
    obtain ⟨ts, r, blk, hm⟩ := hi
    obtain ⟨a, cap, e, _⟩ := hm.row.shape
    exact ⟨a, _, cap, e⟩
  have HP : Hid (∃ a' l' c', Ending.returned (.slice a l c) = .returned (.slice a' l' c') ∧ ImgAt w1 (.slice a' l' c') (imK k) w.heap.size ∧ Below w.heap.size w w1) := ⟨_, _, _, rfl, hi, hb⟩
  clear hi hb
  go_wp2
  go_ret
  exact HP.out
end Go.Proofs.Ytgpmhflndcppeaa

/-! What a loss of power leaves. -/
namespace Go.Proofs.Ytgpmhflndcppeaa
open Go.RowKit Go.Maps Plain
set_option linter.unusedVariables false
set_option linter.unusedSimpArgs false

theorem PicksAt.cells {w w' : World} {v : Value} {ps : List Int} {B : Nat} (h : PicksAt w v ps) (ho : PicksOff B v) (hb : ∀ b, b < B → w'.heap[b]? = w.heap[b]?) : PicksAt w' v ps := by
  obtain ⟨a, cap, rfl, h1, h2, h3, h4⟩ := h
  refine ⟨a, cap, rfl, h1, h2, h3, fun hne => ?_⟩
  obtain ⟨b, off, rfl, hc⟩ := h4 hne
  refine ⟨b, off, rfl, fun j x hj => ?_⟩
  rw [World.cell?_of_block (w := w) (a := ⟨b, off + j, none⟩) (hb b (ho b off _ _ rfl (List.length_pos_iff.mpr hne)))]
  exact hc j x hj
theorem ChoAt.low {w w' : World} {C B : Nat} {v : Value} {ps : List Int} (h : ChoAt w C v ps) (hb : Below B w w') (hC : C < B) : ChoAt w' C v ps :=
  ⟨(hb.block C hC).trans h.blk, h.row.cells h.off (fun b hb' => hb.block b (by omega)), h.off⟩
theorem ImgAt.base {w : World} {v : Value} {im : List (Nm × List Nat)} {b b' : Nat} (h : ImgAt w v im b) (hb : b' ≤ b) : ImgAt w v im b' := by
  obtain ⟨ts, r, blk, h1, h2, h3, h4, h5, h6, h7⟩ := h
  exact ⟨ts, r, blk, h1, h2, h3, fun g e => Nat.le_trans hb (h4 g e), fun j g e => ⟨Nat.le_trans hb (h5 j g e).1, (h5 j g e).2⟩, h6, h7⟩

/-- The directory that is left. -/
def crL (k : Dk) (ps : List Int) : Dir := dst k.Ld (k.chg.take (upV ps k.chg.length))
/-- What a loss of power leaves. -/
def crK (k : Dk) (ps : List Int) : List (Nm × List Nat) := imgL (crL k ps) (fun ps G => (lf ps (k.file G)).1) (fun ps G => (lf ps (k.file G)).2) ps.tail (nms (crL k ps))
def CrPost (k : Dk) (ps : List Int) (w : World) (e : Ending) (w' : World) : Prop := ∃ a l c, e = .returned (.slice a l c) ∧ ImgAt w' (.slice a l c) (crK k ps) w.heap.size ∧ Below w.heap.size w w'

/-- Only blocks from base on, and the choice's, have turned. -/
theorem imgCrash (w0 w5 : World) (d : Nat) (k : Dk) (n C P : Nat) (Sf : Nat → Nat → Prop) (m5 : Option Nat) (L : Dir) (ps : List Int) (v : Value) (hk : k.Dok n) (hlv : ∀ p ∈ L, k.live p.2) (hfiles : ∀ G, k.live G → FileAt w0 G (k.file G) (Sf G)) (hC : C = w0.heap.size)
    (hb : Below w0.heap.size w0 w5) (hc : ChoAt w5 C v ps) (hP : w5.cell? ⟨P, 0, none⟩ = some (.pointer (some ⟨C, 0, none⟩))) (hPC : P ≠ C) (hm : MapO w5 m5 L) (hmC : m5 ≠ some C) (hfew : L.length ≤ 2199023255000) :
    Calls Try.prog 20 #[.map m5, .func (.func 21) #[] #[.pointer (some ⟨P, 0, none⟩)]] w5 fun e w' => ∃ a l c, e = .returned (.slice a l c) ∧ ImgAt w' (.slice a l c) (imgL L (fun ps G => (lf ps (k.file G)).1) (fun ps G => (lf ps (k.file G)).2) ps (nms L)) w0.heap.size ∧ Below w0.heap.size w0 w' := by
  have hCl := hc.lt
  have hPl := cell_lt hP
  simp only at hPl
  have hbs := hb.size
  have low : ∀ w1, w5.grownBy w1 (some C) → Below w0.heap.size w0 w1 := fun w1 hg => hb.trans (grow_below hg hbs (fun g e => by simp at e; omega))
  refine (imageOfOf (σ := List Int) w5 m5 L 21 (.pointer (some ⟨P, 0, none⟩)) (some C) (fun ps w1 => w5.grownBy w1 (some C) ∧ ∃ v, ChoAt w1 C v ps) (fun ps G => (lf ps (k.file G)).1) (fun ps G => (lf ps (k.file G)).2) ps hm hfew ⟨below_grow (Below.refl _ _) _, v, hc⟩
    (fun g e => by simp at e; subst e; exact ⟨hCl, hmC⟩) ?_ (fun a W => enter_crash1 a _ W) ?_).mono ?_
  · rintro s w1 w2 ⟨h1, v1, h2⟩ hb2
    refine ⟨⟨hb2.os.trans h1.os, hb2.tape.trans h1.tape, hb2.output.trans h1.output, Nat.le_trans h1.size hb2.size, fun x hx hne => (hb2.block x hx).trans (h1.block x hx hne)⟩, v1, h2.low hb2 hCl⟩
  · rintro s w1 nm G ⟨h1, v1, h2⟩ _ hG
    have hl : k.live G := hlv _ (look_mem hG)
    have hF := hfiles G hl
    have hb1 := low w1 h1
    refine (crash1Of w1 G (k.file G) (Sf G) C P v1 s (hF.frame hb1.size (fun x hx => hb1.block x (hF.live x hx))) (hk.ok.fok G hl).1 h2 (fun e => by have := hF.live C e; omega) (by rw [World.cell?_of_block (w := w5) (a := ⟨P, 0, none⟩) (h1.block P hPl (by simp; exact hPC))]; exact hP)).mono ?_
    rintro e w2 ⟨a', n', c', r', rfl, q1, q2, q3, q4⟩
    exact ⟨a', n', c', r', rfl, q1, q4, ⟨grow_trans h1 q3 (.inl rfl), q2⟩, q3⟩
  · rintro e w' ⟨v', rfl, hi, ⟨h1, _⟩, _⟩
    obtain ⟨a, l, c, rfl⟩ : ∃ a l c, v' = .slice a l c := by
      obtain ⟨ts, r, blk, hm⟩ := hi
      obtain ⟨a, cap, e, _⟩ := hm.row.shape
      exact ⟨a, _, cap, e⟩
    exact ⟨a, l, c, rfl, hi.base hbs, low w' h1⟩

set_option maxHeartbeats 4000000 in
set_option maxRecDepth 1000000 in
theorem crashOf (w : World) (d : Nat) (k : Dk) (n : Nat) (S : Nat → Prop) (h : DiskAt w d k S) (hk : k.Dok n) (a : Option Addr) (m c : Nat) (ps : List Int) (hp : PicksAt w (.slice a m c) ps) (hpo : PicksOff w.heap.size (.slice a m c))
    (hlv : ∀ p ∈ crL k ps, k.live p.2) (hfew : (crL k ps).length ≤ 2199023255000) :
    Calls Try.prog 7 #[.pointer (some ⟨d, 0, none⟩), .slice a m c] w (CrPost k ps w) := by
  have hDS := h
  obtain ⟨ms, md, vc, rc, Sf, hm, hS1, hS2, hS3⟩ := h
  obtain ⟨⟨c0, c1, c2, _, _, _, _, _, _⟩, _⟩ := dcells hm.cells
  obtain ⟨ac, nc, cc, rfl⟩ := isSliceV hm.chg
  have hnc : nc = k.chg.length := by
    obtain ⟨a, cap, e, _⟩ := hm.chg.shape
    injection e with _ e2 _
    rw [e2, List.length_map]
  obtain ⟨q1, q2⟩ : nc ≤ cc ∧ cc ≤ 2 ^ 63 - 1 := by
    obtain ⟨a, cap, e, h1, h2⟩ := hm.chg.shape
    injection e with _ e2 e3
    unfold maxLen at h1
    omega
  have hcnt := hk.dir.cnt
  subst hnc
  obtain ⟨W, hW⟩ : ∃ W, (w.alloc (.cells #[.slice a m c] 57)).alloc (.cells #[.pointer (some ⟨w.heap.size, 0, none⟩)] 55) = W := ⟨_, rfl⟩
  have hBW : Below w.heap.size w W := by rw [← hW]; exact ((Below.refl _ _).alloc (Nat.le_refl _) _).alloc (by simp) _
  have hWs : W.heap.size = w.heap.size + 2 := by rw [← hW]; simp
  have hCho : ChoAt W w.heap.size (.slice a m c) ps := by
    refine ⟨?_, hp.cells hpo (fun b hb => hBW.block b hb), hpo⟩
    rw [← hW, Below.heap_alloc _ _ _ (by simp)]
    unfold World.alloc
    simp
  have cP : W.cell? ⟨w.heap.size + 1, 0, none⟩ = some (.pointer (some ⟨w.heap.size, 0, none⟩)) := by
    rw [← hW, World.cell?_alloc_at _ _ _ _ (by simp)]
    simp
  have k2 : W.cell? ⟨d, 2, none⟩ = some (.slice ac k.chg.length cc) := by rw [hBW.cell (cell_lt c2)]; exact c2
  have hbD : Below w.heap.size w W.drew := hBW.drew
  have HUP : Hid (Calls Try.prog 18 #[.pointer (some ⟨w.heap.size, 0, none⟩), .int .i64 (k.chg.length : Int)] W.drew fun e w' => e = .returned (.int .i64 (upV ps k.chg.length : Int)) ∧ (∃ v', ChoAt w' w.heap.size v' ps.tail) ∧ W.drew.grownBy w' (some w.heap.size)) := upToOf W.drew _ _ ps k.chg.length (hCho.later ((Below.refl _ _).drew)) (by omega)
  have HPA : Hid (∀ w3, W.drew.grownBy w3 (some w.heap.size) → Calls Try.prog 17 #[.pointer (some ⟨d, 0, none⟩), .int .i64 (upV ps k.chg.length : Int), .func (.func 19) #[] #[]] w3 (PastDPost (crL k ps) w3)) := fun w3 hg => by
    have hb3 : Below w.heap.size w w3 := hbD.trans (grow_below hg (by simp [hWs]) (fun g e => by simp at e; omega))
    exact pastDOf w3 d k S (hDS.frame hb3.size (fun x hx => hb3.block x (hS3 x hx))) hk.dir _ (upV_le ps _)
  have HIM : Hid (∀ w3 w5 m5 v3, W.drew.grownBy w3 (some w.heap.size) → ChoAt w3 w.heap.size v3 ps.tail → Below w3.heap.size w3 w5 → MapO w5 m5 (crL k ps) → (∀ g, m5 = some g → w3.heap.size ≤ g) → Calls Try.prog 20 #[.map m5, .func (.func 21) #[] #[.pointer (some ⟨w.heap.size + 1, 0, none⟩)]] w5 (CrPost k ps w)) := fun w3 w5 m5 v3 hg hc3 hb5 hm5 hn5 => by
    have hb3 : Below w.heap.size w w3 := hbD.trans (grow_below hg (by simp [hWs]) (fun g e => by simp at e; omega))
    have hs3 := hg.size
    have hs3' : w.heap.size + 2 ≤ w3.heap.size := by
      have : W.drew.heap.size = w.heap.size + 2 := hWs
      omega
    refine imgCrash w w5 d k n w.heap.size (w.heap.size + 1) Sf m5 (crL k ps) ps.tail v3 hk hlv hm.files rfl (hb3.trans (hb5.mono hb3.size)) (hc3.later hb5) ?_ (by omega) hm5 (fun e => by have := hn5 _ e; omega) hfew
    have e3 : w3.cell? ⟨w.heap.size + 1, 0, none⟩ = some (.pointer (some ⟨w.heap.size, 0, none⟩)) := hg.cell (show W.drew.cell? ⟨w.heap.size + 1, 0, none⟩ = _ from cP) (by simp)
    rw [hb5.cell (cell_lt e3)]
    exact e3
  clear hm hS1 hS2 hS3 hk hDS hp hpo hlv hfew hBW hCho hbD
  go_enter Try.func7, Try.ntmps7
  go_wp2
  try rw [hW]
  clear hW
  go_region_with (first
    | (go_at_call 18
       refine HUP.out.mono ?_
       rintro e w3 ⟨rfl, ⟨v3, hv3⟩, hg3⟩
       have H3 : Hid (W.drew.grownBy w3 (some w.heap.size) ∧ ChoAt w3 w.heap.size v3 ps.tail) := ⟨hg3, hv3⟩
       clear hv3 hg3)
    | (go_at_call 17
       refine (HPA.out _ H3.out.1).mono ?_
       rintro e w5 ⟨m5, rfl, ho5, hb5, hn5⟩
       have HI5 : Hid (Calls Try.prog 20 #[.map m5, .func (.func 21) #[] #[.pointer (some ⟨w.heap.size + 1, 0, none⟩)]] w5 (CrPost k ps w)) := HIM.out _ w5 m5 v3 H3.out.1 H3.out.2 hb5 ho5 hn5
       clear ho5 hb5 hn5))
  all_goals
    go_wp2_with fail
    refine HI5.out.mono ?_
    rintro e w6 ⟨a6, l6, c6, rfl, h6⟩
    have HP : Hid (CrPost k ps w (.returned (.slice a6 l6 c6)) w6) := ⟨a6, l6, c6, rfl, h6⟩
    clear h6
    go_wp2
    go_ret
    exact HP.out
end Go.Proofs.Ytgpmhflndcppeaa

/-! For Read: parts of a file's bytes; what Read answers. -/
namespace Go.Proofs.Ytgpmhflndcppeaa
open Go.RowKit Go.Maps Plain
set_option linter.unusedVariables false
set_option linter.unusedSimpArgs false

theorem wpList_minN {ops : Array Oper} {rest : List Oper} {o : Oper} {a : Act} {Q : Exit → Act → World → Prop} {w : World} (hgd : o.guard = none) (s x : Operand) (t tx : TypeId) (z y m : Int)
    (ho : o.op = .call { callee := .builtin .min, args := #[s, x], argTypes := #[t, tx] }) (hs : a.eval s = .int .i64 z) (hx : a.eval x = .int .i64 y) (hm : (if y < z then y else z) = m)
    (h : wpList Try.prog ops Q rest (a.put o.dst (.int .i64 m)) w) : wpList Try.prog ops Q (o :: rest) a w :=
  wpList_plain hgd fun _ hK => by
    have hr := run_min_int2 (P := Try.prog) (w := w) #[t, tx] o.type .i64 .i64 z y
    rw [hm] at hr
    unfold Oper.wp execOp
    simp only [ho, resolve, invoke, builtin, Sem.run_bind, Sem.run_pure, Result.andThen_ok, List.map_toArray, List.map_cons, List.map_nil, hs, hx, hr]
    exact hK _ _ h
theorem St.fown {S : Nat → Prop} {w w1 : World} {d G : Nat} {k : Dk} (h : St S w d k w1) (hG : k.live G) : ∃ vs rs, w1.cell? ⟨G, 0, none⟩ = some vs ∧ Own w1 vs (k.file G).seen rs := by
  obtain ⟨ms, md, vc, rc, Sf, hm⟩ := h.at
  obtain ⟨vs, vd, vc, rs, rd, rc, vals, blk, hf, _⟩ := hm.files G hG
  obtain ⟨c0, _⟩ := fcells hf.blkG
  exact ⟨vs, rs, c0, hf.seen⟩
/-- A part of a row of bytes. -/
theorem own_part {w : World} {g A M N c : Nat} {l : List Nat} {r : Option Nat} (h : Own w (.slice (some ⟨g, 0, none⟩) N c) l r) (hA : A ≤ N) (m : Nat) (hm : m = min M (N - A)) : BytesAt w (.slice (some ⟨g, A, none⟩) m (c - A)) ((l.drop A).take M) := by
  have hl := own_len h
  obtain ⟨a', cap', e, h1, h2, h3, h4⟩ := h.bytes
  simp only [Value.slice.injEq] at e
  obtain ⟨rfl, e2, rfl⟩ := e
  have hlen : ((l.drop A).take M).length = m := by rw [List.length_take, List.length_drop]; omega
  refine ⟨_, c - A, by rw [hlen], by rw [hlen]; omega, by omega, fun x hx => h3 x (List.mem_of_mem_drop (List.mem_of_mem_take hx)), fun hne => ⟨g, A, rfl, fun j hj => ?_⟩⟩
  obtain ⟨b', off', e, h5⟩ := h4 (by rintro rfl; simp at hne)
  simp only [Option.some.injEq, Addr.mk.injEq] at e
  obtain ⟨rfl, rfl, _⟩ := e
  rw [hlen] at hj
  have h6 := h5 (A + j) (by omega)
  rw [Nat.zero_add] at h6
  rw [h6]
  simp only [List.getD_eq_getElem?_getD]
  rw [List.getElem?_take_of_lt (by omega), List.getElem?_drop]
theorem own_end {w : World} {g A M N c : Nat} {l : List Nat} {r : Option Nat} (h : Own w (.slice (some ⟨g, 0, none⟩) N c) l r) (hA : c ≤ A) : BytesAt w (.slice (some ⟨g, 0, none⟩) 0 0) ((l.drop A).take M) := by
  have hl := own_len h
  obtain ⟨q1, _⟩ := own_cap h
  have e : (l.drop A).take M = [] := by rw [List.drop_eq_nil_of_le (by omega)]; simp
  rw [e]
  exact ⟨_, 0, rfl, by simp, by simp, by simp, by simp⟩

/-- What Read answers. -/
def rdB (k : Dk) (s : ByteArray) (A M : Nat) : List Nat := (look k.L s.data.toList).elim [] fun G => ((k.file G).seen.drop A).take M
def RdPost (S : Nat → Prop) (d : Nat) (k : Dk) (w : World) (l : List Nat) (w1 : World) (e : Ending) (w' : World) : Prop := ∃ a n c r, e = .returned (.tuple #[.slice a n c, .int .i64 0]) ∧ Own w' (.slice a n c) l r ∧ (∀ g, r = some g → w1.heap.size ≤ g) ∧ Below w1.heap.size w1 w' ∧ St S w d k w'

end Go.Proofs.Ytgpmhflndcppeaa

/-! Dead, Ops, Used, Quota. -/
namespace Go.Proofs.Ytgpmhflndcppeaa
open Go.RowKit Go.Maps Plain
set_option linter.unusedVariables false
set_option linter.unusedSimpArgs false
set_option maxRecDepth 1000000

theorem usedOf {S : Nat → Prop} {w w1 : World} {d : Nat} {k : Dk} (h : St S w d k w1) : Calls Try.prog 15 #[.pointer (some ⟨d, 0, none⟩)] w1 fun e w' => e = .returned (.int .i64 k.used) ∧ w' = w1 := by
  obtain ⟨c3, _⟩ := h.cells
  clear h
  go_enter Try.func15, Try.ntmps15
  go_wp2
  go_ret
  exact ⟨rfl, rfl⟩
end Go.Proofs.Ytgpmhflndcppeaa

/-! SetQuota. -/
namespace Go.Proofs.Ytgpmhflndcppeaa
open Go.RowKit Go.Maps Plain
set_option linter.unusedVariables false
set_option linter.unusedSimpArgs false
set_option maxRecDepth 1000000

def Dk.quotas (k : Dk) (q : Int) : Dk := { k with quota := q }
theorem quotaSt {S : Nat → Prop} {w w1 : World} {d : Nat} {k : Dk} (h : St S w d k w1) (u : Int) : St S w d (k.quotas u) (w1.setCell ⟨d, 4, none⟩ (.int .i64 u)) := by
  obtain ⟨⟨ms, md, vc, rc, Sf, hm, hS1, hS2, hS3⟩, hc⟩ := h
  have hg := grow_set w1 d 4 (.int .i64 u)
  have hsz : (w1.setCell ⟨d, 4, none⟩ (.int .i64 u)).heap.size = w1.heap.size := by simp
  have keep : ∀ x, x < w1.heap.size → x ≠ d → (w1.setCell ⟨d, 4, none⟩ (.int .i64 u)).heap[x]? = w1.heap[x]? := fun x hx h1 => hg.block x hx (by simpa using h1)
  have hE : ∀ x, Ext S w w1 x → Ext S w (w1.setCell ⟨d, 4, none⟩ (.int .i64 u)) x := fun x hx => by
    rcases hx with hx | hx
    · exact .inl hx
    · exact .inr ⟨hx.1, by omega⟩
  have hdS : S d ∨ w.heap.size ≤ d := by
    rcases hS1 d (.inl rfl) with h | h
    · exact .inl h
    · exact .inr h.1
  refine ⟨⟨ms, md, vc, rc, Sf, ⟨dset hm.cells 4 _, hm.seen.of_block (fun b e => keep b (hm.seen.rlt b e) (hm.sepS b e).1), hm.dur.of_block (fun b e => keep b (hm.dur.rlt b e) (hm.sepD b e).1), hm.chg.of_block hg.size (fun b e => keep b (hm.chg.rlt b e) (hm.sepC b e)), fun G hG => (hm.files G hG).frame hg.size (fun x hx => keep x ((hm.files G hG).live x hx) (hm.sepF G hG x hx).1), hm.sepS, hm.sepD, hm.sepC, hm.sepF, hm.sepFF⟩, fun x hx => hE x (hS1 x hx), fun G x hG hx => hE x (hS2 G x hG hx), fun x hx => ?_⟩, hc.grown hg (fun g e => by simp at e; subst e; exact hdS)⟩
  rcases hx with hx | hx
  · have := hS3 x (.inl hx); omega
  · exact hx.2
end Go.Proofs.Ytgpmhflndcppeaa

/-! Read. -/
namespace Go.Proofs.Ytgpmhflndcppeaa
open Go.RowKit Go.Maps Plain
set_option linter.unusedVariables false
set_option linter.unusedSimpArgs false

theorem min_eq (N A M m : Nat) (hA : A ≤ N) (hm : m = min M (N - A)) (ts : Array TypeId) (t : TypeId) (W : World) : (Builtin.min_ ts t #[.int .i64 (M : Int), .int .i64 ((N - A : Nat) : Int)]).run Try.prog W = .ok (.int .i64 (m : Int)) W := by
  rw [run_min_int2]
  have : (if ((N - A : Nat) : Int) < (M : Int) then ((N - A : Nat) : Int) else (M : Int)) = (m : Int) := by split <;> omega
  rw [this]

set_option maxHeartbeats 1000000 in
set_option maxRecDepth 1000000 in
theorem readOwn (d G g A M N vc m : Nat) (s : ByteArray) (W0 W1 : World) (X : List Nat) (Q : Ending → World → Prop)
    (HFD : Hid (Calls Try.prog 38 #[.pointer (some ⟨d, 0, none⟩), .string s] W0 fun e w' => e = .returned (.tuple #[.pointer (some ⟨G, 0, none⟩), .int .i64 0]) ∧ w' = W1))
    (g0 : W1.cell? ⟨G, 0, none⟩ = some (.slice (some ⟨g, 0, none⟩) N vc)) (q1 : N ≤ vc) (q2 : vc ≤ 2 ^ 63 - 1) (hA : A ≤ N) (hlt : A < vc) (hM : M ≤ 9223372036854775807) (hm : m ≤ N - A)
    (hmin : ∀ (ts : Array TypeId) (t : TypeId) (W : World), (Builtin.min_ ts t #[.int .i64 (M : Int), .int .i64 ((N - A : Nat) : Int)]).run Try.prog W = .ok (.int .i64 (m : Int)) W)
    (HCL : Hid (Calls Try.prog 33 #[.slice (some ⟨g, A, none⟩) m (vc - A)] W1 fun e w' => ∃ a n c, e = .returned (.slice a n c) ∧ Q (.returned (.tuple #[.slice a n c, .int .i64 0])) w')) :
    Calls Try.prog 14 #[.pointer (some ⟨d, 0, none⟩), .string s, .int .i64 (A : Int), .int .i64 (M : Int)] W0 Q := by
  obtain ⟨R, hR⟩ : ∃ R, N - A = R := ⟨_, rfl⟩
  rw [hR] at hmin hm
  have hNR : N = A + R := by omega
  subst hNR
  clear hR
  go_enter Try.func14, Try.ntmps14
  go_wp2_with fail
  refine HFD.out.mono ?_
  rintro e w2 ⟨rfl, rfl⟩
  go_wp2_with fail
  refine HCL.out.mono ?_
  rintro e w3 ⟨a3, n3, c3, rfl, hq⟩
  have HP : Hid (Q (.returned (.tuple #[.slice a3 n3 c3, .int .i64 0])) w3) := hq
  clear hq
  go_wp2
  exact HP.out

set_option maxHeartbeats 1000000 in
set_option maxRecDepth 1000000 in
theorem readEnd (d G A M : Nat) (va : Option Addr) (s : ByteArray) (W0 W1 : World) (Q : Ending → World → Prop)
    (HFD : Hid (Calls Try.prog 38 #[.pointer (some ⟨d, 0, none⟩), .string s] W0 fun e w' => e = .returned (.tuple #[.pointer (some ⟨G, 0, none⟩), .int .i64 0]) ∧ w' = W1))
    (hva : va = none ∨ ∃ g, va = some ⟨g, 0, none⟩) (h0 : va = none → A = 0) (g0 : W1.cell? ⟨G, 0, none⟩ = some (.slice va A A)) (q2 : A ≤ 2 ^ 63 - 1) (hM : M ≤ 9223372036854775807)
    (hmin : ∀ (ts : Array TypeId) (t : TypeId) (W : World), (Builtin.min_ ts t #[.int .i64 (M : Int), .int .i64 0]).run Try.prog W = .ok (.int .i64 0) W)
    (HCL : Hid (Calls Try.prog 33 #[.slice va 0 0] W1 fun e w' => ∃ a n c, e = .returned (.slice a n c) ∧ Q (.returned (.tuple #[.slice a n c, .int .i64 0])) w')) :
    Calls Try.prog 14 #[.pointer (some ⟨d, 0, none⟩), .string s, .int .i64 (A : Int), .int .i64 (M : Int)] W0 Q := by
  rcases hva with rfl | ⟨g, rfl⟩
  · obtain rfl := h0 rfl
    go_enter Try.func14, Try.ntmps14
    go_wp2_with fail
    refine HFD.out.mono ?_
    rintro e w2 ⟨rfl, rfl⟩
    go_wp2_with fail
    refine HCL.out.mono ?_
    rintro e w3 ⟨a3, n3, c3, rfl, hq⟩
    have HP : Hid (Q (.returned (.tuple #[.slice a3 n3 c3, .int .i64 0])) w3) := hq
    clear hq
    go_wp2
    exact HP.out
  · clear h0
    go_enter Try.func14, Try.ntmps14
    go_wp2_with fail
    refine HFD.out.mono ?_
    rintro e w2 ⟨rfl, rfl⟩
    go_wp2_with fail
    refine HCL.out.mono ?_
    rintro e w3 ⟨a3, n3, c3, rfl, hq⟩
    have HP : Hid (Q (.returned (.tuple #[.slice a3 n3 c3, .int .i64 0])) w3) := hq
    clear hq
    go_wp2
    exact HP.out

theorem readOk {S : Nat → Prop} {w w1 : World} {d n : Nat} {k : Dk} (h : St S w d k w1) (hk : k.Ok n) (s : ByteArray) (hs : s.size ≤ maxLen) (A M : Nat) (hM : M ≤ 9223372036854775807) (h0 : (fnd k.dead k.L s).2 = 0) (hA : A ≤ sizeK k s) :
    Calls Try.prog 14 #[.pointer (some ⟨d, 0, none⟩), .string s, .int .i64 (A : Int), .int .i64 (M : Int)] w1 (RdPost S d k w (rdB k s A M) w1) := by
  have HB1 : Below w1.heap.size w1 (w1.alloc (.cells #[.string s] 9)) := (Below.refl _ _).alloc (Nat.le_refl _) _
  have HS : St S w d k (w1.alloc (.cells #[.string s] 9)) := h.below HB1
  have HFD := findSt h s hs
  obtain ⟨G, hl, hfe⟩ := fnd_ok h0
  rw [hfe] at HFD
  have hG : k.live G := hk.refs _ (look_mem hl)
  obtain ⟨vs, rs, g0, hown⟩ := HS.fown hG
  have HX : rdB k s A M = ((k.file G).seen.drop A).take M := by unfold rdB; rw [hl]; rfl
  have hsz : sizeK k s = (k.file G).seen.length := by unfold sizeK; rw [hl]; rfl
  have hbd : (k.file G).seen.length ≤ 70368744177664 := by
    have h1 := (hk.fok G hG).1
    have h2 := h1.len (k.file G).chg.length
    rw [List.take_length, ← h1.eq] at h2
    exact h2
  rw [HX]
  rw [hsz] at hA
  obtain ⟨va, N, vc, rfl⟩ := isSliceO hown
  have hlen := own_len hown
  obtain ⟨q1, q2⟩ := own_cap hown
  rw [hlen] at hA hbd
  have hXl : (((k.file G).seen.drop A).take M).length ≤ 140737488355328 := by rw [List.length_take, List.length_drop]; omega
  have hcl : ∀ v, BytesAt (w1.alloc (.cells #[.string s] 9)) v (((k.file G).seen.drop A).take M) → Calls Try.prog 33 #[v] (w1.alloc (.cells #[.string s] 9)) fun e w' => ∃ a n c, e = .returned (.slice a n c) ∧ RdPost S d k w (((k.file G).seen.drop A).take M) w1 (.returned (.tuple #[.slice a n c, .int .i64 0])) w' := fun v hv => by
    refine (cloneOf v _ _ hv hXl).mono ?_
    rintro e w3 ⟨v3, r3, rfl, ho3, hb3, hr3⟩
    obtain ⟨a3, n3, c3, rfl⟩ := isSliceO ho3
    have := HB1.size
    exact ⟨a3, n3, c3, rfl, a3, n3, c3, r3, rfl, ho3, fun g e => by have := hr3 g e; omega, below_on HB1 hb3, HS.below hb3⟩
  have hva : va = none ∧ N = 0 ∧ vc = 0 ∨ ∃ g, va = some ⟨g, 0, none⟩ := by
    rcases hown.2 with ⟨e, _⟩ | ⟨g, _, _, e, _⟩
    · injection e with e1 e2 e3
      exact .inl ⟨e1, e2, e3⟩
    · injection e with e1 e2 e3
      exact .inr ⟨g, e1⟩
  have hz : ∀ (ts : Array TypeId) (t : TypeId) (W : World), (Builtin.min_ ts t #[.int .i64 (M : Int), .int .i64 0]).run Try.prog W = .ok (.int .i64 0) W := fun ts t W => by
    rw [run_min_int2]
    have : (if (0 : Int) < (M : Int) then (0 : Int) else (M : Int)) = 0 := by split <;> omega
    rw [this]
  rcases hva with ⟨rfl, rfl, rfl⟩ | ⟨g, rfl⟩
  · obtain rfl : A = 0 := by omega
    refine readEnd d G 0 M none s w1 _ _ HFD (.inl rfl) (fun _ => rfl) g0 (by omega) hM hz (hcl _ ?_)
    have : (k.file G).seen = [] := List.length_eq_zero_iff.mp hlen
    rw [this]
    simp
    exact BytesAt.nil _
  · by_cases hlt : A < vc
    · exact readOwn d G g A M N vc (min M (N - A)) s w1 _ [] _ HFD g0 q1 q2 hA hlt hM (Nat.min_le_right _ _) (min_eq N A M _ hA rfl) (hcl _ (own_part hown hA _ rfl))
    · obtain rfl : vc = A := by omega
      obtain rfl : N = vc := by omega
      exact readEnd d G N M (some ⟨g, 0, none⟩) s w1 _ _ HFD (.inr ⟨g, rfl⟩) (by simp) g0 q2 hM hz (hcl _ (own_end hown (Nat.le_refl _)))
end Go.Proofs.Ytgpmhflndcppeaa

/-! The law on Rename: the disks that it goes through. -/
namespace Go.Proofs.Ytgpmhflndcppeaa
open Go.RowKit Go.Maps Plain
set_option linter.unusedVariables false
set_option linter.unusedSimpArgs false

def nmA : ByteArray := ⟨#[110, 97, 109, 101]⟩
def nmT : ByteArray := ⟨#[110, 97, 109, 101, 46, 116, 109, 112]⟩
def kA : Nm := [110, 97, 109, 101]
def kT : Nm := [110, 97, 109, 101, 46, 116, 109, 112]
def dk (L Ld : Dir) (chg : List DC) (u o : Int) (F : Nat → Fl) (lv : Nat → Prop) : Dk := ⟨L, Ld, chg, u, 1073741824, o, false, 0, false, F, lv⟩
def F0 : Nat → Fl := fun _ => ⟨[], [], []⟩
def lv1 (G : Nat) : Nat → Prop := fun x => False ∨ x = G
def lv2 (G H : Nat) : Nat → Prop := fun x => lv1 G x ∨ x = H
def s0 : Dk := Dk.fresh 1073741824
def s1 (G : Nat) : Dk := dk [(kA, G)] [] [DC.mk kA G] 0 1 (upd F0 G ⟨[], [], []⟩) (lv1 G)
def s2 (G : Nat) (o : List Nat) : Dk := dk [(kA, G)] [] [DC.mk kA G] (o.length : Int) 2 (upd (upd F0 G ⟨[], [], []⟩) G ⟨o, [], [FC.add o]⟩) (lv1 G)
def F3 (G : Nat) (o : List Nat) : Nat → Fl := upd (upd (upd F0 G ⟨[], [], []⟩) G ⟨o, [], [FC.add o]⟩) G ⟨o, o, []⟩
def s3 (G : Nat) (o : List Nat) : Dk := dk [(kA, G)] [] [DC.mk kA G] (o.length : Int) 3 (F3 G o) (lv1 G)
def s4 (G : Nat) (o : List Nat) (H : Nat) : Dk := dk [(kA, G), (kT, H)] [] [DC.mk kA G, DC.mk kT H] (o.length : Int) 4 (upd (F3 G o) H ⟨[], [], []⟩) (lv2 G H)
def s5 (G : Nat) (o : List Nat) (H : Nat) (f : List Nat) : Dk := dk [(kA, G), (kT, H)] [] [DC.mk kA G, DC.mk kT H] ((o.length : Int) + f.length) 5 (upd (upd (F3 G o) H ⟨[], [], []⟩) H ⟨f, [], [FC.add f]⟩) (lv2 G H)
def F6 (G : Nat) (o : List Nat) (H : Nat) (f : List Nat) : Nat → Fl := upd (upd (upd (F3 G o) H ⟨[], [], []⟩) H ⟨f, [], [FC.add f]⟩) H ⟨f, f, []⟩
def s6 (G : Nat) (o : List Nat) (H : Nat) (f : List Nat) : Dk := dk [(kA, G), (kT, H)] [] [DC.mk kA G, DC.mk kT H] ((o.length : Int) + f.length) 6 (F6 G o H f) (lv2 G H)
def s7 (G : Nat) (o : List Nat) (H : Nat) (f : List Nat) : Dk := dk [(kA, G), (kT, H)] [(kA, G), (kT, H)] [] ((o.length : Int) + f.length) 7 (F6 G o H f) (lv2 G H)
def s8 (G : Nat) (o : List Nat) (H : Nat) (f : List Nat) : Dk := dk [(kA, H)] [(kA, G), (kT, H)] [DC.mv kT kA] (f.length : Int) 8 (F6 G o H f) (lv2 G H)
def s9 (G : Nat) (o : List Nat) (H : Nat) (f : List Nat) : Dk := dk [(kA, H)] [(kA, H)] [] (f.length : Int) 9 (F6 G o H f) (lv2 G H)

theorem t1 (G : Nat) : createK s0 nmA G = (0, s1 G) := by rfl
theorem F3G (G : Nat) (o : List Nat) : F3 G o G = ⟨o, o, []⟩ := upd_same _ _ _
theorem t2 (G : Nat) (o : List Nat) (h : o.length ≤ 1000) : appendK (s1 G) nmA o = (0, s2 G o) := by
  have e1 : (fnd (s1 G).dead (s1 G).L nmA).2 = 0 := by rfl
  have e2 : look (s1 G).L nmA.data.toList = some G := by rfl
  have e3 : (s1 G).file G = ⟨[], [], []⟩ := upd_same _ _ _
  have e4 : (s1 G).can = true := by rfl
  unfold appendK
  rw [if_pos e1, if_neg (by show ¬ (0 < o.length ∧ (1073741824 : Int) - 0 < o.length); omega), e2]
  simp only [e3, e4, if_true, Fl.add]
  show (0, dk _ _ _ (0 + (o.length : Int)) _ _ _) = _
  rw [Int.zero_add]
  rfl
theorem t3 (G : Nat) (o : List Nat) : syncK (s2 G o) nmA = (0, s3 G o) := by
  have e1 : (fnd (s2 G o).dead (s2 G o).L nmA).2 = 0 := by rfl
  have e2 : look (s2 G o).L nmA.data.toList = some G := by rfl
  have e3 : (s2 G o).file G = ⟨o, [], [FC.add o]⟩ := upd_same _ _ _
  have e4 : (s2 G o).can = true := by rfl
  unfold syncK
  rw [if_pos e1, e2]
  simp only [e3, e4, if_true]
  rfl
theorem t4 (G H : Nat) (o : List Nat) : createK (s3 G o) nmT H = (0, s4 G o H) := by rfl
theorem t5 (G H : Nat) (o f : List Nat) (h : o.length ≤ 1000) (h2 : f.length ≤ 1000) : appendK (s4 G o H) nmT f = (0, s5 G o H f) := by
  have e1 : (fnd (s4 G o H).dead (s4 G o H).L nmT).2 = 0 := by rfl
  have e2 : look (s4 G o H).L nmT.data.toList = some H := by rfl
  have e3 : (s4 G o H).file H = ⟨[], [], []⟩ := upd_same _ _ _
  have e4 : (s4 G o H).can = true := by rfl
  unfold appendK
  rw [if_pos e1, if_neg (by show ¬ (0 < f.length ∧ (1073741824 : Int) - (o.length : Int) < f.length); omega), e2]
  simp only [e3, e4, if_true, Fl.add]
  rfl
theorem t6 (G H : Nat) (o f : List Nat) : syncK (s5 G o H f) nmT = (0, s6 G o H f) := by
  have e1 : (fnd (s5 G o H f).dead (s5 G o H f).L nmT).2 = 0 := by rfl
  have e2 : look (s5 G o H f).L nmT.data.toList = some H := by rfl
  have e3 : (s5 G o H f).file H = ⟨f, [], [FC.add f]⟩ := upd_same _ _ _
  have e4 : (s5 G o H f).can = true := by rfl
  unfold syncK
  rw [if_pos e1, e2]
  simp only [e3, e4, if_true]
  rfl
theorem t7 (G H : Nat) (o f : List Nat) : syncDirK (s6 G o H f) = (0, s7 G o H f) := by rfl
theorem F6H (G H : Nat) (o f : List Nat) : F6 G o H f H = ⟨f, f, []⟩ := upd_same _ _ _
theorem F6G (G H : Nat) (o f : List Nat) (h : G ≠ H) : F6 G o H f G = ⟨o, o, []⟩ := by
  unfold F6
  rw [upd_other _ _ _ _ h, upd_other _ _ _ _ h, upd_other _ _ _ _ h, F3G]
theorem t8 (G H : Nat) (o f : List Nat) (h : G ≠ H) : renameK (s7 G o H f) nmT nmA = (0, s8 G o H f) := by
  have e1 : rdy (s7 G o H f).dead [nmT, nmA] = 0 := by rfl
  have e2 : (fnd (s7 G o H f).dead (s7 G o H f).L nmT).2 = 0 := by rfl
  have e4 : (s7 G o H f).can = true := by rfl
  have e5 : (sizeK (s7 G o H f) nmA : Int) = (o.length : Int) := by
    have : sizeK (s7 G o H f) nmA = (F6 G o H f G).seen.length := by rfl
    rw [this, F6G G H o f h]
  unfold renameK
  rw [if_neg (by rw [e1]; simp), if_neg (by decide), if_pos e2, if_pos e4, e5]
  show (0, dk _ _ _ ((o.length : Int) + f.length - o.length) _ _ _) = _
  rw [show (o.length : Int) + f.length - o.length = f.length by omega]
  rfl
theorem t9 (G H : Nat) (o f : List Nat) : syncDirK (s8 G o H f) = (0, s9 G o H f) := by rfl
end Go.Proofs.Ytgpmhflndcppeaa
