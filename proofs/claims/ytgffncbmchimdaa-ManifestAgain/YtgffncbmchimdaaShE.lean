import Derived.Test.YtgffncbmchimdaaShD
/-! What a loss of power leaves. -/
namespace Go.Proofs.Ytgffncbmchimdaa
open Go.RowKit Go.Maps Plain
set_option linter.unusedVariables false
set_option linter.unusedSimpArgs false

theorem PicksAt.cells {w w' : World} {v : Value} {ps : List Int} {B : Nat} (h : PicksAt w v ps) (ho : PicksOff B v) (hb : ∀ b, b < B → w'.heap[b]? = w.heap[b]?) : PicksAt w' v ps := by
  obtain ⟨a, cap, rfl, h1, h2, h3, h4⟩ := h
  refine ⟨a, cap, rfl, h1, h2, h3, fun hne => ?_⟩
  obtain ⟨b, off, rfl, hc⟩ := h4 hne
  refine ⟨b, off, rfl, fun j x hj => ?_⟩
  rw [World.cell?_of_block (w := w) (a := ⟨b, off + j, none⟩) (hb b (ho b off _ _ rfl))]
  exact hc j x hj
theorem ChoAt.low {w w' : World} {C B : Nat} {v : Value} {ps : List Int} (h : ChoAt w C v ps) (hb : Below B w w') (hC : C < B) : ChoAt w' C v ps :=
  ⟨(hb.block C hC).trans h.blk, h.row.cells h.off (fun b hb' => hb.block b (by omega)), h.off⟩
theorem ImgAt.base {w : World} {v : Value} {im : List (Nm × List Nat)} {b b' : Nat} (h : ImgAt w v im b) (hb : b' ≤ b) : ImgAt w v im b' := by
  obtain ⟨ts, r, blk, h1, h2, h3, h4, h5, h6, h7⟩ := h
  exact ⟨ts, r, blk, h1, h2, h3, fun g e => Nat.le_trans hb (h4 g e), fun j g e => ⟨Nat.le_trans hb (h5 j g e).1, (h5 j g e).2⟩, h6, h7⟩

/-- The directory that is left. -/
def crL (k : Dk) (ps : List Int) : Dir := dst k.Ld (k.chg.take (upV ps k.chg.length))
/-- What a loss of power leaves. -/
def crK (k : Dk) (ps : List Int) : List (Nm × List Nat) := imgL (crL k ps) (fun ps G => (lf ps (k.file G)).1) (fun ps G => (lf ps (k.file G)).2) ps.tail (nms (crL k ps))
def CrPost (k : Dk) (ps : List Int) (w : World) (e : Ending) (w' : World) : Prop := ∃ a l c, e = .returned (.slice a l c) ∧ ImgAt w' (.slice a l c) (crK k ps) w.heap.size ∧ Below w.heap.size w w'

/-- Only blocks from base on, and the choice's, have turned. -/
theorem imgCrash (w0 w5 : World) (d : Nat) (k : Dk) (n C P : Nat) (Sf : Nat → Nat → Prop) (m5 : Option Nat) (L : Dir) (ps : List Int) (v : Value) (hk : k.Dok n) (hlv : ∀ p ∈ L, k.live p.2) (hfiles : ∀ G, k.live G → FileAt w0 G (k.file G) (Sf G)) (hC : C = w0.heap.size)
    (hb : Below w0.heap.size w0 w5) (hc : ChoAt w5 C v ps) (hP : w5.cell? ⟨P, 0, none⟩ = some (.pointer (some ⟨C, 0, none⟩))) (hPC : P ≠ C) (hm : MapO w5 m5 L) (hmC : m5 ≠ some C) (hfew : L.length ≤ 2199023255000) :
    Calls Try.prog 35 #[.map m5, .func (.func 42) #[] #[.pointer (some ⟨P, 0, none⟩)]] w5 fun e w' => ∃ a l c, e = .returned (.slice a l c) ∧ ImgAt w' (.slice a l c) (imgL L (fun ps G => (lf ps (k.file G)).1) (fun ps G => (lf ps (k.file G)).2) ps (nms L)) w0.heap.size ∧ Below w0.heap.size w0 w' := by
  have hCl := hc.lt
  have hPl := cell_lt hP
  simp only at hPl
  have hbs := hb.size
  have low : ∀ w1, w5.grownBy w1 (some C) → Below w0.heap.size w0 w1 := fun w1 hg => hb.trans (grow_below hg hbs (fun g e => by simp at e; omega))
  refine (imageOfOf (σ := List Int) w5 m5 L 42 (.pointer (some ⟨P, 0, none⟩)) (some C) (fun ps w1 => w5.grownBy w1 (some C) ∧ ∃ v, ChoAt w1 C v ps) (fun ps G => (lf ps (k.file G)).1) (fun ps G => (lf ps (k.file G)).2) ps hm hfew ⟨below_grow (Below.refl _ _) _, v, hc⟩
    (fun g e => by simp at e; subst e; exact ⟨hCl, hmC⟩) ?_ (fun a W => enter_crash1 a _ W) ?_).mono ?_
  · rintro s w1 w2 ⟨h1, v1, h2⟩ hb2
    refine ⟨⟨hb2.os.trans h1.os, hb2.tape.trans h1.tape, hb2.output.trans h1.output, Nat.le_trans h1.size hb2.size, fun x hx hne => (hb2.block x hx).trans (h1.block x hx hne)⟩, v1, h2.low hb2 hCl⟩
  · rintro s w1 nm G ⟨h1, v1, h2⟩ _ hG
    have hl : k.live G := hlv _ (look_mem hG)
    have hF := hfiles G hl
    have hb1 := low w1 h1
    refine (crash1Of w1 G (k.file G) (Sf G) C P v1 s (hF.frame hb1.size (fun x hx => hb1.block x (hF.live x hx))) (hk.ok.fok G hl).1 h2 (fun e => by have := hF.live C e; omega) (by rw [World.cell?_of_block (w := w5) (a := ⟨P, 0, none⟩) (h1.block P hPl (by simp; exact hPC))]; exact hP)).mono ?_
    rintro e w2 ⟨a', n', c', r', rfl, q1, q2, q3, q4⟩
    exact ⟨a', n', c', r', rfl, q1, q4, ⟨grow_trans h1 q3 (.inl rfl), q2⟩, q3⟩
  · rintro e w' ⟨v', rfl, hi, ⟨h1, _⟩, _⟩
    obtain ⟨a, l, c, rfl⟩ : ∃ a l c, v' = .slice a l c := by
      obtain ⟨ts, r, blk, hm⟩ := hi
      obtain ⟨a, cap, e, _⟩ := hm.row.shape
      exact ⟨a, _, cap, e⟩
    exact ⟨a, l, c, rfl, hi.base hbs, low w' h1⟩

set_option maxHeartbeats 4000000 in
set_option maxRecDepth 1000000 in
theorem crashOf (w : World) (d : Nat) (k : Dk) (n : Nat) (S : Nat → Prop) (h : DiskAt w d k S) (hk : k.Dok n) (a : Option Addr) (m c : Nat) (ps : List Int) (hp : PicksAt w (.slice a m c) ps) (hpo : PicksOff w.heap.size (.slice a m c))
    (hlv : ∀ p ∈ crL k ps, k.live p.2) (hfew : (crL k ps).length ≤ 2199023255000) :
    Calls Try.prog 12 #[.pointer (some ⟨d, 0, none⟩), .slice a m c] w (CrPost k ps w) := by
  have hDS := h
  obtain ⟨ms, md, vc, rc, Sf, hm, hS1, hS2, hS3⟩ := h
  obtain ⟨⟨c0, c1, c2, _, _, _, _, _, _⟩, _⟩ := dcells hm.cells
  obtain ⟨ac, nc, cc, rfl⟩ := isSliceV hm.chg
  have hnc : nc = k.chg.length := by
    obtain ⟨a, cap, e, _⟩ := hm.chg.shape
    injection e with _ e2 _
    rw [e2, List.length_map]
  obtain ⟨q1, q2⟩ : nc ≤ cc ∧ cc ≤ 2 ^ 63 - 1 := by
    obtain ⟨a, cap, e, h1, h2⟩ := hm.chg.shape
    injection e with _ e2 e3
    unfold maxLen at h1
    omega
  have hcnt := hk.dir.cnt
  subst hnc
  obtain ⟨W, hW⟩ : ∃ W, (w.alloc (.cells #[.slice a m c] 89)).alloc (.cells #[.pointer (some ⟨w.heap.size, 0, none⟩)] 87) = W := ⟨_, rfl⟩
  have hBW : Below w.heap.size w W := by rw [← hW]; exact ((Below.refl _ _).alloc (Nat.le_refl _) _).alloc (by simp) _
  have hWs : W.heap.size = w.heap.size + 2 := by rw [← hW]; simp
  have hCho : ChoAt W w.heap.size (.slice a m c) ps := by
    refine ⟨?_, hp.cells hpo (fun b hb => hBW.block b hb), hpo⟩
    rw [← hW, Below.heap_alloc _ _ _ (by simp)]
    unfold World.alloc
    simp
  have cP : W.cell? ⟨w.heap.size + 1, 0, none⟩ = some (.pointer (some ⟨w.heap.size, 0, none⟩)) := by
    rw [← hW, World.cell?_alloc_at _ _ _ _ (by simp)]
    simp
  have k2 : W.cell? ⟨d, 2, none⟩ = some (.slice ac k.chg.length cc) := by rw [hBW.cell (cell_lt c2)]; exact c2
  have hbD : Below w.heap.size w W.drew := hBW.drew
  have HUP : Hid (Calls Try.prog 40 #[.pointer (some ⟨w.heap.size, 0, none⟩), .int .i64 (k.chg.length : Int)] W.drew fun e w' => e = .returned (.int .i64 (upV ps k.chg.length : Int)) ∧ (∃ v', ChoAt w' w.heap.size v' ps.tail) ∧ W.drew.grownBy w' (some w.heap.size)) := upToOf W.drew _ _ ps k.chg.length (hCho.later ((Below.refl _ _).drew)) (by omega)
  have HPA : Hid (∀ w3, W.drew.grownBy w3 (some w.heap.size) → Calls Try.prog 39 #[.pointer (some ⟨d, 0, none⟩), .int .i64 (upV ps k.chg.length : Int), .func (.func 41) #[] #[]] w3 (PastDPost (crL k ps) w3)) := fun w3 hg => by
    have hb3 : Below w.heap.size w w3 := hbD.trans (grow_below hg (by simp [hWs]) (fun g e => by simp at e; omega))
    exact pastDOf w3 d k S (hDS.frame hb3.size (fun x hx => hb3.block x (hS3 x hx))) hk.dir _ (upV_le ps _)
  have HIM : Hid (∀ w3 w5 m5 v3, W.drew.grownBy w3 (some w.heap.size) → ChoAt w3 w.heap.size v3 ps.tail → Below w3.heap.size w3 w5 → MapO w5 m5 (crL k ps) → (∀ g, m5 = some g → w3.heap.size ≤ g) → Calls Try.prog 35 #[.map m5, .func (.func 42) #[] #[.pointer (some ⟨w.heap.size + 1, 0, none⟩)]] w5 (CrPost k ps w)) := fun w3 w5 m5 v3 hg hc3 hb5 hm5 hn5 => by
    have hb3 : Below w.heap.size w w3 := hbD.trans (grow_below hg (by simp [hWs]) (fun g e => by simp at e; omega))
    have hs3 := hg.size
    have hs3' : w.heap.size + 2 ≤ w3.heap.size := by
      have : W.drew.heap.size = w.heap.size + 2 := hWs
      omega
    refine imgCrash w w5 d k n w.heap.size (w.heap.size + 1) Sf m5 (crL k ps) ps.tail v3 hk hlv hm.files rfl (hb3.trans (hb5.mono hb3.size)) (hc3.later hb5) ?_ (by omega) hm5 (fun e => by have := hn5 _ e; omega) hfew
    have e3 : w3.cell? ⟨w.heap.size + 1, 0, none⟩ = some (.pointer (some ⟨w.heap.size, 0, none⟩)) := hg.cell (show W.drew.cell? ⟨w.heap.size + 1, 0, none⟩ = _ from cP) (by simp)
    rw [hb5.cell (cell_lt e3)]
    exact e3
  clear hm hS1 hS2 hS3 hk hDS hp hpo hlv hfew hBW hCho hbD
  go_enter Try.func12, Try.ntmps12
  go_wp2
  try rw [hW]
  clear hW
  go_region_with (first
    | (go_at_call 40
       refine HUP.out.mono ?_
       rintro e w3 ⟨rfl, ⟨v3, hv3⟩, hg3⟩
       have H3 : Hid (W.drew.grownBy w3 (some w.heap.size) ∧ ChoAt w3 w.heap.size v3 ps.tail) := ⟨hg3, hv3⟩
       clear hv3 hg3)
    | (go_at_call 39
       refine (HPA.out _ H3.out.1).mono ?_
       rintro e w5 ⟨m5, rfl, ho5, hb5, hn5⟩
       have HI5 : Hid (Calls Try.prog 35 #[.map m5, .func (.func 42) #[] #[.pointer (some ⟨w.heap.size + 1, 0, none⟩)]] w5 (CrPost k ps w)) := HIM.out _ w5 m5 v3 H3.out.1 H3.out.2 hb5 ho5 hn5
       clear ho5 hb5 hn5))
  all_goals
    go_wp2_with fail
    refine HI5.out.mono ?_
    rintro e w6 ⟨a6, l6, c6, rfl, h6⟩
    have HP : Hid (CrPost k ps w (.returned (.slice a6 l6 c6)) w6) := ⟨a6, l6, c6, rfl, h6⟩
    clear h6
    go_wp2
    go_ret
    exact HP.out
end Go.Proofs.Ytgffncbmchimdaa
