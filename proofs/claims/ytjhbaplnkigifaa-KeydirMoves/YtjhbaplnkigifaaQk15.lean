import Derived.Test.YtjhbaplnkigifaaQk13
import Derived.Test.YtjhbaplnkigifaaQk14
import Derived.Deep.RegionLaw
/-! keydir: the document's Put of a key that is not there; Remove. -/
namespace Go.Proofs.Ytjhbaplnkigifaa
open Go.RowKit Plain
set_option linter.unusedVariables false
set_option linter.unusedSimpArgs false

/-- A row of the call's own, newer than W. -/
structure KrNew (W w : World) (v : Value) (ts : List Kr) (r : Option Nat) : Prop where
  row : OwnKr w v ts r
  new : ∀ g, r = some g → W.heap.size ≤ g
  below : Below W.heap.size W w
theorem KrNew.nil (W : World) : KrNew W W (.slice none 0 0) [] none := ⟨OwnKr.nil _, by simp, Below.refl _ _⟩
theorem KrNew.later {W w w' : World} {v : Value} {ts : List Kr} {r : Option Nat} (h : KrNew W w v ts r) (hb : Below w.heap.size w w') : KrNew W w' v ts r := ⟨h.row.later hb, h.new, h.below.trans (hb.mono h.below.size)⟩
theorem KrNew.app {W w w' : World} {v v' : Value} {ts ts' : List Kr} {r r' : Option Nat} (h : KrNew W w v ts r) (ho : OwnKr w' v' ts' r') (hg : w.grownBy w' r) (hr : r' = r ∨ r' = some w.heap.size) : KrNew W w' v' ts' r' := by
  refine ⟨ho, fun g e => ?_, h.below.grown hg h.below.size h.new⟩
  rcases hr with h1 | h1
  · exact h.new g (by rw [← h1]; exact e)
  · rw [h1] at e; cases e; exact h.below.size
theorem xsrcTake {w : World} {g k c : Nat} {rs : List Kr} (h : ∀ j, j < rs.length → Kr.CellsAt w g (j * 7) (rs.getD j Kr.zero)) (hk : k ≤ rs.length) : Src Try.prog 7 43 (.slice (some ⟨g, 0, none⟩) k c) (rs.take k).length (kcells (rs.take k)) w :=
  CellsAt.srcTake (off := 0) (fun j hj => by rw [Nat.zero_add]; exact h j hj) hk
theorem xsrcDrop {w : World} {g k m c : Nat} {rs : List Kr} (h : ∀ j, j < rs.length → Kr.CellsAt w g (j * 7) (rs.getD j Kr.zero)) (hk : k ≤ rs.length) (hm : m = rs.length - k) : Src Try.prog 7 43 (.slice (some ⟨g, k * 7, none⟩) m c) (rs.drop k).length (kcells (rs.drop k)) w := by
  have := CellsAt.srcDrop (off := 0) (k := k) (m := m) (c := c) (w := w) (b := g) (rs := rs) (fun j hj => by rw [Nat.zero_add]; exact h j hj) hk hm
  rwa [Nat.zero_add] at this
theorem src_none (w : World) : Src Try.prog 7 43 (.slice none 0 0) ([] : List Kr).length (kcells []) w := Src.ofNil w Try.underlying43 0
/-- What the new list's being stored leaves. -/
theorem XDirAt.store {w w0 w6 : World} {gx : Nat} {v v6 : Value} {l l' : List Ke} {r r6 : Option Nat} (hb : Below w.heap.size w w0) (h : XDirAt w gx v l r) (hn : KrNew w0 w6 v6 (rowK l') r6) (hs : Srt l') (hsh : ∀ k ∈ l', k.key.size ≤ 64) (hl : l'.length ≤ 2199023255000) :
    XPut w (w6.setCell ⟨gx, 0, none⟩ v6) gx r l' v6 r6 := by
  have hgl := h.lt
  have hs0 := hb.size
  have hs6 := hn.below.size
  have hb6 : Below w.heap.size w w6 := hb.trans (hn.below.mono hb.size)
  have hc := (hb6.cell (p := ⟨gx, 0, none⟩) hgl).trans h.cell
  have hf := (hb6.frozen (p := ⟨gx, 0, none⟩) hgl).trans h.froz
  have hg := grow_setC w6 gx 0 v6
  have hne : r6 ≠ some gx := fun e => by have := hn.new gx e; omega
  refine ⟨⟨World.cell?_setCell_same' _ _ _ (by rw [hc]; rfl), by rw [World.frozen?_setCell]; exact hf, hn.row.kept hg (.inr hne), hne, hs, hsh, hl⟩, (Chg.ofBelow hb6).grown hg (fun j e => .inl (.inl (by cases e; rfl))), .inr fun g e => (by have := hn.new g e; omega), (keeps_below hb6).trans (KeepsOthers.setCell _ _ _)⟩
theorem XPut.box {w u : World} {gx R : Nat} {r r' : Option Nat} {l : List Ke} {v' : Value} (h : XPut w u gx r l v' r') (e : En) (hR : w.heap.size ≤ R) (hg : gx < w.heap.size) (hr : r' ≠ some R) : XPut w (putEn u R e) gx r l v' r' := by
  have hp := putEn_grow u R e
  have hb : (putEn u R e).heap[gx]? = u.heap[gx]? := hp.block gx h.dir.lt (fun e => by cases e; omega)
  exact ⟨⟨(World.cell?_of_block (w := u) (a := ⟨gx, 0, none⟩) hb).trans h.dir.cell, (World.frozen?_of_block (w := u) (a := ⟨gx, 0, none⟩) hb).trans h.dir.froz, h.dir.row.kept hp (.inr hr), h.dir.ne, h.dir.srt, h.dir.short, h.dir.len⟩, h.chg.grown hp (fun j e => .inr (by cases e; exact hR)), h.new, h.kp.trans (putEn_keeps _ _ _)⟩
set_option maxHeartbeats 16000000 in
set_option maxRecDepth 100000 in
theorem xputNew (gx : Nat) (v : Value) (l : List Ke) (r : Option Nat) (key : ByteArray) (en : En) (w : World) (h : XDirAt w gx v l r) (hk1 : 1 ≤ key.size) (hk : key.size ≤ 64) (hf : findL key l = none) (hlen : l.length < 2199023255000) :
    Calls Try.prog 12 #[.pointer (some ⟨gx, 0, none⟩), .string key, en.v] w fun e w' => e = .returned (.tuple #[En.zero.v, .bool false, .int .i64 0]) ∧ ∃ v' r', XPut w w' gx r (insL key en l) v' r' := by
  obtain ⟨a, cap, rfl, hc1, hc2⟩ := h.shape
  obtain ⟨w0, hw0⟩ : ∃ w0, (w.alloc (.cells #[.int .i64 en.seg, .int .i64 en.pos, .int .i64 en.size, .int .i64 en.off, .int .i64 en.time, .bool en.tomb] 38)).alloc (.cells #[.int .i64 0, .int .i64 0, .int .i64 0, .int .i64 0, .int .i64 0, .bool false] 38) = w0 := ⟨_, rfl⟩
  have hs0 : w0.heap.size = w.heap.size + 2 := by rw [← hw0]; simp
  have hb0 : Below w.heap.size w w0 := by rw [← hw0]; exact ((Below.refl _ _).alloc (Nat.le_refl _) _).alloc (by simp) _
  have hq : (w.alloc (.cells #[.int .i64 en.seg, .int .i64 en.pos, .int .i64 en.size, .int .i64 en.off, .int .i64 en.time, .bool en.tomb] 38)).heap.size = w.heap.size + 1 := by simp
  have hR : EnAt w0 (w.heap.size + 1) En.zero := by rw [← hw0, ← hq]; exact EnAt.new _ En.zero
  have hE : EnAt w0 w.heap.size en := by rw [← hw0]; exact (EnAt.new w en).block (Below.heap_alloc _ _ _ (by simp))
  have hF : ∀ j, w0.frozen? ⟨w.heap.size + 1, j, none⟩ = false := fun j => by
    rw [← hw0, ← hq]
    exact World.frozen?_alloc_at _ _ _ _ rfl
  have HX := h.later hb0
  have HAT : Hid (Calls Try.prog 42 #[.pointer (some ⟨gx, 0, none⟩), .string key] w0 fun e w' => e = .returned (.int .i64 (atL key l)) ∧ ∃ n, w' = w0.drewN n) := xatOf gx _ l r key w0 HX (by unfold maxLen; omega)
  rw [at_none hf] at HAT
  have HRK : Hid (∀ n, Calls Try.prog 22 #[.pointer (some ⟨gx, 0, none⟩), .string key] (w0.drewN n) fun e w' => e = .returned (.int .i64 (rankL key l : Nat)) ∧ ∃ m, w' = (w0.drewN n).drewN m) := fun n => xrankOf gx _ l r key _ (HX.later (below_drewN (Below.refl _ _) n)) (by unfold maxLen; omega)
  have hgl := h.lt
  have hrk := rankL_le key l
  have HINS : Hid (rowK (insL key en l) = (rowK l).take (rankL key l) ++ [Ke.r ⟨key, en⟩] ++ (rowK l).drop (rankL key l)) := by
    unfold Hid
    rw [ins_lost h.srt (find_none hf)]
    simp [rowK]
  have HFIN : Hid (∀ w6 v6 r6, KrNew w0 w6 v6 (rowK (insL key en l)) r6 → XPut w (w6.setCell ⟨gx, 0, none⟩ v6) gx r (insL key en l) v6 r6) := fun w6 v6 r6 hn => h.store hb0 hn (h.srt.ins key en) (ins_short h.short hk) (by have := insL_len key en l; omega)
  have HPR : Hid (∀ u, Below w0.heap.size w0 u → XDirAt u gx (.slice a l.length cap) l r ∧ EnAt u w.heap.size en ∧ EnAt u (w.heap.size + 1) En.zero ∧ ∀ j, u.frozen? ⟨w.heap.size + 1, j, none⟩ = false) := fun u hu => ⟨HX.later hu, hE.block (hu.block _ (by omega)), hR.block (hu.block _ (by omega)), fun j => (hu.frozen (p := ⟨w.heap.size + 1, j, none⟩) (by show w.heap.size + 1 < w0.heap.size; omega)).trans (hF j)⟩
  have c0 := HX.cell
  have hll := HX.len
  clear h HX hb0 hq hR hE hF hf
  generalize rankL key l = k at *
  go_enter Try.func12, Try.ntmps12
  go_wp2_with fail
  refine HAT.out.mono ?_
  rintro e w' ⟨rfl, nq, rfl⟩
  go_wp2_with fail
  refine (HRK.out nq).mono ?_
  rintro e w' ⟨rfl, mq, rfl⟩
  have HA1 : Hid (KrNew w0 ((w0.drewN nq).drewN mq) (.slice none 0 0) [] none) := (KrNew.nil w0).later (below_drewN (below_drewN (Below.refl _ _) nq) mq)
  generalize (w0.drewN nq).drewN mq = w1 at HA1 ⊢
  have c1 := (HPR.out w1 HA1.out.below).1.cell
  cases r with
  | none =>
    obtain ⟨rfl, rfl, rfl⟩ : a = none ∧ l = [] ∧ cap = 0 := by
      rcases (HPR.out w1 HA1.out.below).1.row with ⟨e, e2, _⟩ | ⟨g, c, e, _⟩
      · injection e with e1 e3 e4
        exact ⟨e1, by simpa using e2, e4⟩
      · cases e
    have hk0 : k = 0 := by simpa using hrk
    subst hk0
    go_wp2_with (at_builtin; refine wpList_append_ka _ rfl _ _ rfl _ _ [] [] none rfl rfl ?hOwnA ?hSrcA ?hLenA ?_)
    case hOwnA => exact OwnKr.nil _
    case hSrcA => exact src_none _
    case hLenA => simp
    intro v4 w4 r4 ho4 hg4 hr4
    have HA4 : Hid (KrNew w0 w4 v4 [] r4) := HA1.out.app ho4 hg4 hr4
    obtain ⟨a4, c4, rfl, -, -⟩ := ho4.shape
    have hl0 : ([] : List Kr).length = 0 := rfl
    rw [hl0] at HA4 ⊢
    clear ho4 hg4 hr4 HA1 c1
    obtain ⟨p0, p1, p2, p3, p4, p5⟩ := (HPR.out w4 HA4.out.below).2.1
    go_wp2_with (at_builtin; refine wpList_append_ka _ rfl _ _ rfl _ _ [] [Ke.r ⟨key, en⟩] r4 rfl rfl ?hOwnB ?hSrcB ?hLenB ?_)
    case hOwnB => exact HA4.out.row.later ((Below.refl _ _).alloc (Nat.le_refl _) _)
    case hSrcB => exact src_kr _ ⟨key, en⟩
    case hLenB => simp
    intro v5 w5 r5 ho5 hg5 hr5
    have HA5 : Hid (KrNew w0 w5 v5 [Ke.r ⟨key, en⟩] r5) := (HA4.out.later ((Below.refl _ _).alloc (Nat.le_refl _) _)).app ho5 hg5 (by simpa using hr5)
    have hlt5 : [Ke.r ⟨key, en⟩].length = 1 := rfl
    obtain ⟨a5, c5, rfl, -, -⟩ := ho5.shape
    rw [hlt5] at HA5 ⊢
    clear ho5 hg5 hr5 HA4 p0 p1 p2 p3 p4 p5
    have c1 := (HPR.out w5 HA5.out.below).1.cell
    go_wp2_with (at_builtin; refine wpList_append_ka _ rfl _ _ rfl _ _ [Ke.r ⟨key, en⟩] [] r5 rfl rfl ?hOwnC ?hSrcC ?hLenC ?_)
    case hOwnC => exact HA5.out.row
    case hSrcC => exact src_none _
    case hLenC => simp
    intro v6 w6 r6 ho6 hg6 hr6
    have HA6 : Hid (KrNew w0 w6 v6 (rowK (insL key en [])) r6) := by
      have := HA5.out.app ho6 hg6 hr6
      unfold Hid
      rw [HINS.out]
      simpa using this
    obtain ⟨N6, a6, cc6, rfl⟩ : ∃ N a c, v6 = .slice a N c := by
      obtain ⟨a6, cc6, e, -, -⟩ := ho6.shape
      exact ⟨_, a6, cc6, e⟩
    clear ho6 hg6 hr6 HA5 c1
    have HF6 : Hid (XPut w (w6.setCell ⟨gx, 0, none⟩ (.slice a6 N6 cc6)) gx none (insL key en []) (.slice a6 N6 cc6) r6) := HFIN.out w6 _ r6 HA6.out
    have hrr : r6 ≠ some (w.heap.size + 1) := fun e => by have := HA6.out.new _ e; omega
    have c6 := (HPR.out w6 HA6.out.below).1.cell
    have f6 := (HPR.out w6 HA6.out.below).1.froz
    have hg7 := grow_setC w6 gx 0 (.slice a6 N6 cc6)
    have hs6 := HA6.out.below.size
    obtain ⟨w7, hw7⟩ : ∃ w7, w6.setCell ⟨gx, 0, none⟩ (.slice a6 N6 cc6) = w7 := ⟨_, rfl⟩
    have hbR : w7.heap[w.heap.size + 1]? = w6.heap[w.heap.size + 1]? := by rw [← hw7]; exact hg7.block _ (by omega) (fun e => by cases e; omega)
    obtain ⟨r0, r1, r2, r3, r4, r5⟩ : EnAt w7 (w.heap.size + 1) En.zero := (HPR.out w6 HA6.out.below).2.2.1.block hbR
    simp only [En.zero] at r0 r1 r2 r3 r4 r5
    have hF7 : ∀ j, w7.frozen? ⟨w.heap.size + 1, j, none⟩ = false := fun j => (World.frozen?_of_block (w := w6) (a := ⟨w.heap.size + 1, j, none⟩) hbR).trans ((HPR.out w6 HA6.out.below).2.2.2 j)
    have g0 := hF7 0
    have g1 := hF7 1
    have g2 := hF7 2
    have g3 := hF7 3
    have g4 := hF7 4
    have g5 := hF7 5
    rw [hw7] at HF6
    have HF7 : Hid (XPut w (putEn w7 (w.heap.size + 1) En.zero) gx none (insL key en []) (.slice a6 N6 cc6) r6) := HF6.out.box En.zero (by omega) hgl hrr
    clear hF7 hbR hg7 HF6 HA6 HPR HFIN HINS
    go_wp2
    refine bodyPost_ret (v := .tuple #[En.zero.v, .bool false, .int .i64 0]) ?_ rfl ⟨rfl, _, _, HF7.out⟩
    simp only [results, hresXput, En.zero]
    go_simp
  | some g =>
    obtain rfl : a = some ⟨g, 0, none⟩ := by
      rcases (HPR.out w1 HA1.out.below).1.row with ⟨_, _, e⟩ | ⟨g', c, e, e2, _⟩
      · cases e
      · cases e; injection e2
    have HCS : Hid (∀ u, Below w0.heap.size w0 u → ∀ j, j < (rowK l).length → Kr.CellsAt u g (j * 7) ((rowK l).getD j Kr.zero)) := fun u hu j hj => (HPR.out u hu).1.row.at hj
    have hrl : (rowK l).length = l.length := by simp
    go_wp2_with (at_builtin; refine wpList_append_ka _ rfl _ _ rfl _ _ [] ((rowK l).take k) none rfl rfl ?hOwnA ?hSrcA ?hLenA ?_)
    case hOwnA => exact OwnKr.nil _
    case hSrcA => exact xsrcTake (HCS.out _ HA1.out.below) (by omega)
    case hLenA => simp; omega
    intro v4 w4 r4 ho4 hg4 hr4
    have HA4 : Hid (KrNew w0 w4 v4 ((rowK l).take k) r4) := HA1.out.app ho4 hg4 hr4
    have hlt : ((rowK l).take k).length = k := by simp; omega
    obtain ⟨a4, c4, rfl, -, -⟩ := ho4.shape
    rw [hlt] at HA4 ⊢
    clear ho4 hg4 hr4 HA1 c1
    obtain ⟨p0, p1, p2, p3, p4, p5⟩ := (HPR.out w4 HA4.out.below).2.1
    go_wp2_with (at_builtin; refine wpList_append_ka _ rfl _ _ rfl _ _ ((rowK l).take k) [Ke.r ⟨key, en⟩] r4 rfl rfl ?hOwnB ?hSrcB ?hLenB ?_)
    case hOwnB => exact HA4.out.row.later ((Below.refl _ _).alloc (Nat.le_refl _) _)
    case hSrcB => exact src_kr _ ⟨key, en⟩
    case hLenB => simp; omega
    intro v5 w5 r5 ho5 hg5 hr5
    have HA5 : Hid (KrNew w0 w5 v5 ((rowK l).take k ++ [Ke.r ⟨key, en⟩]) r5) := (HA4.out.later ((Below.refl _ _).alloc (Nat.le_refl _) _)).app ho5 hg5 (by simpa using hr5)
    have hlt5 : ((rowK l).take k ++ [Ke.r ⟨key, en⟩]).length = k + 1 := by simp; omega
    obtain ⟨a5, c5, rfl, -, -⟩ := ho5.shape
    rw [hlt5] at HA5 ⊢
    clear ho5 hg5 hr5 HA4 p0 p1 p2 p3 p4 p5
    have c1 := (HPR.out w5 HA5.out.below).1.cell
    by_cases hck : cap = k
    · go_wp2_with (at_builtin; refine wpList_append_ka _ rfl _ _ rfl _ _ ((rowK l).take k ++ [Ke.r ⟨key, en⟩]) ((rowK l).drop k) r5 rfl rfl ?hOwnC ?hSrcC ?hLenC ?_)
      case hOwnC => exact HA5.out.row
      case hSrcC => first | exact xsrcDrop (HCS.out _ HA5.out.below) (by omega) (by omega) | exact CellsAt.srcEnd (by omega) (by omega)
      case hLenC => simp; omega
      intro v6 w6 r6 ho6 hg6 hr6
      have HA6 : Hid (KrNew w0 w6 v6 (rowK (insL key en l)) r6) := by
        have := HA5.out.app ho6 hg6 hr6
        unfold Hid
        rw [HINS.out]
        simpa using this
      obtain ⟨N6, a6, cc6, rfl⟩ : ∃ N a c, v6 = .slice a N c := by
        obtain ⟨a6, cc6, e, -, -⟩ := ho6.shape
        exact ⟨_, a6, cc6, e⟩
      clear ho6 hg6 hr6 HA5 c1
      have HF6 : Hid (XPut w (w6.setCell ⟨gx, 0, none⟩ (.slice a6 N6 cc6)) gx (some g) (insL key en l) (.slice a6 N6 cc6) r6) := HFIN.out w6 _ r6 HA6.out
      have hrr : r6 ≠ some (w.heap.size + 1) := fun e => by have := HA6.out.new _ e; omega
      have c6 := (HPR.out w6 HA6.out.below).1.cell
      have f6 := (HPR.out w6 HA6.out.below).1.froz
      have hg7 := grow_setC w6 gx 0 (.slice a6 N6 cc6)
      have hs6 := HA6.out.below.size
      obtain ⟨w7, hw7⟩ : ∃ w7, w6.setCell ⟨gx, 0, none⟩ (.slice a6 N6 cc6) = w7 := ⟨_, rfl⟩
      have hbR : w7.heap[w.heap.size + 1]? = w6.heap[w.heap.size + 1]? := by rw [← hw7]; exact hg7.block _ (by omega) (fun e => by cases e; omega)
      obtain ⟨r0, r1, r2, r3, r4, r5⟩ : EnAt w7 (w.heap.size + 1) En.zero := (HPR.out w6 HA6.out.below).2.2.1.block hbR
      simp only [En.zero] at r0 r1 r2 r3 r4 r5
      have hF7 : ∀ j, w7.frozen? ⟨w.heap.size + 1, j, none⟩ = false := fun j => (World.frozen?_of_block (w := w6) (a := ⟨w.heap.size + 1, j, none⟩) hbR).trans ((HPR.out w6 HA6.out.below).2.2.2 j)
      have g0 := hF7 0
      have g1 := hF7 1
      have g2 := hF7 2
      have g3 := hF7 3
      have g4 := hF7 4
      have g5 := hF7 5
      rw [hw7] at HF6
      have HF7 : Hid (XPut w (putEn w7 (w.heap.size + 1) En.zero) gx (some g) (insL key en l) (.slice a6 N6 cc6) r6) := HF6.out.box En.zero (by omega) hgl hrr
      clear hF7 hbR hg7 HF6 HA6 HPR HFIN HINS
      go_wp2
      refine bodyPost_ret (v := .tuple #[En.zero.v, .bool false, .int .i64 0]) ?_ rfl ⟨rfl, _, _, HF7.out⟩
      simp only [results, hresXput, En.zero]
      go_simp
    · go_wp2_with (at_builtin; refine wpList_append_ka _ rfl _ _ rfl _ _ ((rowK l).take k ++ [Ke.r ⟨key, en⟩]) ((rowK l).drop k) r5 rfl rfl ?hOwnC ?hSrcC ?hLenC ?_)
      case hOwnC => exact HA5.out.row
      case hSrcC => first | exact xsrcDrop (HCS.out _ HA5.out.below) (by omega) (by omega) | exact CellsAt.srcEnd (by omega) (by omega)
      case hLenC => simp; omega
      intro v6 w6 r6 ho6 hg6 hr6
      have HA6 : Hid (KrNew w0 w6 v6 (rowK (insL key en l)) r6) := by
        have := HA5.out.app ho6 hg6 hr6
        unfold Hid
        rw [HINS.out]
        simpa using this
      obtain ⟨N6, a6, cc6, rfl⟩ : ∃ N a c, v6 = .slice a N c := by
        obtain ⟨a6, cc6, e, -, -⟩ := ho6.shape
        exact ⟨_, a6, cc6, e⟩
      clear ho6 hg6 hr6 HA5 c1
      have HF6 : Hid (XPut w (w6.setCell ⟨gx, 0, none⟩ (.slice a6 N6 cc6)) gx (some g) (insL key en l) (.slice a6 N6 cc6) r6) := HFIN.out w6 _ r6 HA6.out
      have hrr : r6 ≠ some (w.heap.size + 1) := fun e => by have := HA6.out.new _ e; omega
      have c6 := (HPR.out w6 HA6.out.below).1.cell
      have f6 := (HPR.out w6 HA6.out.below).1.froz
      have hg7 := grow_setC w6 gx 0 (.slice a6 N6 cc6)
      have hs6 := HA6.out.below.size
      obtain ⟨w7, hw7⟩ : ∃ w7, w6.setCell ⟨gx, 0, none⟩ (.slice a6 N6 cc6) = w7 := ⟨_, rfl⟩
      have hbR : w7.heap[w.heap.size + 1]? = w6.heap[w.heap.size + 1]? := by rw [← hw7]; exact hg7.block _ (by omega) (fun e => by cases e; omega)
      obtain ⟨r0, r1, r2, r3, r4, r5⟩ : EnAt w7 (w.heap.size + 1) En.zero := (HPR.out w6 HA6.out.below).2.2.1.block hbR
      simp only [En.zero] at r0 r1 r2 r3 r4 r5
      have hF7 : ∀ j, w7.frozen? ⟨w.heap.size + 1, j, none⟩ = false := fun j => (World.frozen?_of_block (w := w6) (a := ⟨w.heap.size + 1, j, none⟩) hbR).trans ((HPR.out w6 HA6.out.below).2.2.2 j)
      have g0 := hF7 0
      have g1 := hF7 1
      have g2 := hF7 2
      have g3 := hF7 3
      have g4 := hF7 4
      have g5 := hF7 5
      rw [hw7] at HF6
      have HF7 : Hid (XPut w (putEn w7 (w.heap.size + 1) En.zero) gx (some g) (insL key en l) (.slice a6 N6 cc6) r6) := HF6.out.box En.zero (by omega) hgl hrr
      clear hF7 hbR hg7 HF6 HA6 HPR HFIN HINS
      go_wp2
      refine bodyPost_ret (v := .tuple #[En.zero.v, .bool false, .int .i64 0]) ?_ rfl ⟨rfl, _, _, HF7.out⟩
      simp only [results, hresXput, En.zero]
      go_simp
end Go.Proofs.Ytjhbaplnkigifaa

/-! keydir: the document's Remove, Freeze, New. -/
namespace Go.Proofs.Ytjhbaplnkigifaa
open Go.RowKit Plain
set_option linter.unusedVariables false
set_option linter.unusedSimpArgs false

theorem del_short {l : List Ke} {key : ByteArray} (h : ∀ k ∈ l, k.key.size ≤ 64) : ∀ k ∈ delL key l, k.key.size ≤ 64 := fun k hm => h k (List.mem_filter.mp hm).1
theorem hresXremove : Try.f20.results = #[.cell 4 38, .tmp 5] := by kernel_rfl
theorem XPut.same {w w' : World} {gx : Nat} {v : Value} {l : List Ke} {r : Option Nat} (h : XDirAt w gx v l r) (hb : Below w.heap.size w w') : XPut w w' gx r l v r := ⟨h.later hb, Chg.ofBelow hb, .inl rfl, keeps_below hb⟩
set_option maxHeartbeats 16000000 in
set_option maxRecDepth 100000 in
theorem xremoveOf (gx : Nat) (v : Value) (l : List Ke) (r : Option Nat) (key : ByteArray) (w : World) (h : XDirAt w gx v l r) (hk : key.size ≤ maxLen) :
    Calls Try.prog 20 #[.pointer (some ⟨gx, 0, none⟩), .string key] w fun e w' => e = .returned (.tuple #[(gotE (findL key l)).v, .bool (findL key l).isSome]) ∧ ∃ v' r', XPut w w' gx r (delL key l) v' r' := by
  obtain ⟨a, cap, rfl, hc1, hc2⟩ := h.shape
  obtain ⟨w0, hw0⟩ : ∃ w0, w.alloc (.cells #[.int .i64 0, .int .i64 0, .int .i64 0, .int .i64 0, .int .i64 0, .bool false] 38) = w0 := ⟨_, rfl⟩
  have hs0 : w0.heap.size = w.heap.size + 1 := by rw [← hw0]; simp
  have hb0 : Below w.heap.size w w0 := by rw [← hw0]; exact (Below.refl _ _).alloc (Nat.le_refl _) _
  have hR : EnAt w0 w.heap.size En.zero := by rw [← hw0]; exact EnAt.new _ En.zero
  have hF : ∀ j, w0.frozen? ⟨w.heap.size, j, none⟩ = false := fun j => by rw [← hw0]; exact World.frozen?_alloc_at _ _ _ _ rfl
  have HX := h.later hb0
  have HAT : Hid (Calls Try.prog 42 #[.pointer (some ⟨gx, 0, none⟩), .string key] w0 fun e w' => e = .returned (.int .i64 (atL key l)) ∧ ∃ n, w' = w0.drewN n) := xatOf gx _ l r key w0 HX hk
  have hgl := h.lt
  have HPR : Hid (∀ u, Below w0.heap.size w0 u → XDirAt u gx (.slice a l.length cap) l r ∧ EnAt u w.heap.size En.zero ∧ ∀ j, u.frozen? ⟨w.heap.size, j, none⟩ = false) := fun u hu => ⟨HX.later hu, hR.block (hu.block _ (by omega)), fun j => (hu.frozen (p := ⟨w.heap.size, j, none⟩) (by show w.heap.size < w0.heap.size; omega)).trans (hF j)⟩
  have c0 := HX.cell
  have hll := HX.len
  cases hf : findL key l with
  | none =>
    rw [at_none hf] at HAT
    have HD : Hid (delL key l = l) := delL_keep (find_none hf)
    have HXW : Hid (∀ u, Below w.heap.size w u → XPut w u gx r l (.slice a l.length cap) r) := fun u hu => XPut.same h hu
    have HB0 : Hid (Below w.heap.size w w0) := hb0
    obtain ⟨r0, r1, r2, r3, r4, r5⟩ := hR
    simp only [En.zero] at r0 r1 r2 r3 r4 r5
    have f0 := hF 0
    have f1 := hF 1
    have f2 := hF 2
    have f3 := hF 3
    have f4 := hF 4
    have f5 := hF 5
    clear h HX hb0 hF hf
    go_enter Try.func20, Try.ntmps20
    go_wp2_with fail
    refine HAT.out.mono ?_
    rintro e w' ⟨rfl, nq, rfl⟩
    go_wp2
    refine bodyPost_ret (v := .tuple #[En.zero.v, .bool false]) ?_ rfl ⟨rfl, _, _, by rw [HD.out]; exact HXW.out _ (putEn_below En.zero (below_drewN HB0.out nq) (Nat.le_refl _))⟩
    simp only [results, hresXremove, En.zero]
    go_simp
  | some x =>
    obtain ⟨e1, h1, h2⟩ := at_found h.srt hf
    rw [e1] at HAT
    have HDEL : Hid (rowK (delL key l) = (rowK l).take (rankL key l) ++ (rowK l).drop (rankL key l + 1)) := by
      unfold Hid
      rw [del_found h.srt hf]
      simp [rowK]
    have HAX : Hid (l.getD (rankL key l) Ke.zero = x) := h2
    have HFIN : Hid (∀ w6 v6 r6, KrNew w0 w6 v6 (rowK (delL key l)) r6 → XPut w (w6.setCell ⟨gx, 0, none⟩ v6) gx r (delL key l) v6 r6) := fun w6 v6 r6 hn => h.store hb0 hn (h.srt.del key) (del_short h.short) (by have := delL_len key l; omega)
    obtain ⟨g, rfl, rfl, -⟩ := h.at h1
    have HCS : Hid (∀ u, Below w0.heap.size w0 u → ∀ j, j < (rowK l).length → Kr.CellsAt u g (j * 7) ((rowK l).getD j Kr.zero)) := fun u hu j hj => (HPR.out u hu).1.row.at hj
    have hrl : (rowK l).length = l.length := by simp
    clear h HX hb0 hR hF hf h2 e1
    generalize rankL key l = k at *
    have HC1 : Hid (∀ u, Below w0.heap.size w0 u → Kr.CellsAt u g (k * 7) x.r) := fun u hu => by
      have := HCS.out u hu k (by omega)
      rw [rowK_getD l k h1, HAX.out] at this
      exact this
    have hki : (k : Int) < (l.length : Int) := by omega
    obtain ⟨xkey, xe⟩ := x
    obtain ⟨x1, x2, x3, x4, x5, x6⟩ := xe
    go_enter Try.func20, Try.ntmps20
    go_wp2_with fail
    refine HAT.out.mono ?_
    rintro e w' ⟨rfl, nq, rfl⟩
    have hb1 : Below w0.heap.size w0 (w0.drewN nq) := below_drewN (Below.refl _ _) nq
    generalize w0.drewN nq = w1 at hb1 ⊢
    obtain ⟨d0, d1, d2, d3, d4, d5, d6⟩ := HC1.out w1 hb1
    simp only [Ke.r] at d0 d1 d2 d3 d4 d5 d6
    have c1 := (HPR.out w1 hb1).1.cell
    obtain ⟨w2, hw2⟩ : ∃ w2, w1.alloc (.cells #[.int .i64 x1, .int .i64 x2, .int .i64 x3, .int .i64 x4, .int .i64 x5, .bool x6] 38) = w2 := ⟨_, rfl⟩
    have hb12 : Below w1.heap.size w1 w2 := by rw [← hw2]; exact (Below.refl _ _).alloc (Nat.le_refl _) _
    have hs1 := hb1.size
    have hs2 := hb12.size
    have hs2' : w2.heap.size = w1.heap.size + 1 := by rw [← hw2]; simp
    have hb02 : Below w0.heap.size w0 w2 := hb1.trans (hb12.mono hb1.size)
    have HOL : Hid (∀ u, Below w2.heap.size w2 u → EnAt u w1.heap.size ⟨x1, x2, x3, x4, x5, x6⟩) := fun u hu => by
      have h : EnAt w2 w1.heap.size ⟨x1, x2, x3, x4, x5, x6⟩ := by rw [← hw2]; exact EnAt.new w1 ⟨x1, x2, x3, x4, x5, x6⟩
      exact h.block (hu.block _ h.lt)
    have HA2 : Hid (KrNew w2 w2 (.slice none 0 0) [] none) := KrNew.nil w2
    have HB2 : Hid (Below w0.heap.size w0 w2) := hb02
    have HUP : Hid (∀ u v ts r, KrNew w2 u v ts r → KrNew w0 u v ts r) := fun u v ts r h => ⟨h.row, fun g e => by have := h.new g e; omega, hb02.trans (h.below.mono hb02.size)⟩
    have c2 := (HPR.out w2 hb02).1.cell
    clear hb12 hb02 hb1
    go_wp2_with (at_builtin; refine wpList_append_ka _ rfl _ _ rfl _ _ [] ((rowK l).take k) none rfl rfl ?hOwnA ?hSrcA ?hLenA ?_)
    case hOwnA => exact OwnKr.nil _
    case hSrcA => exact xsrcTake (HCS.out _ HB2.out) (by omega)
    case hLenA => simp; omega
    intro v4 w4 r4 ho4 hg4 hr4
    have HA4 : Hid (KrNew w2 w4 v4 ((rowK l).take k) r4) := HA2.out.app ho4 hg4 (by rw [hs2']; exact hr4)
    have HB4 : Hid (Below w0.heap.size w0 w4) := (HUP.out _ _ _ _ HA4.out).below
    have hlt : ((rowK l).take k).length = k := by simp; omega
    obtain ⟨a4, c4, rfl, -, -⟩ := ho4.shape
    rw [hlt] at HA4 ⊢
    clear ho4 hg4 hr4 HA2 c1 c2 d0 d1 d2 d3 d4 d5 d6
    have c1 := (HPR.out w4 HB4.out).1.cell
    by_cases hck : cap = k + 1
    · go_wp2_with (at_builtin; refine wpList_append_ka _ rfl _ _ rfl _ _ ((rowK l).take k) ((rowK l).drop (k + 1)) r4 rfl rfl ?hOwnC ?hSrcC ?hLenC ?_)
      case hOwnC => exact HA4.out.row
      case hSrcC => first | exact xsrcDrop (HCS.out _ HB4.out) (by omega) (by omega) | exact CellsAt.srcEnd (by omega) (by omega)
      case hLenC => simp; omega
      intro v6 w6 r6 ho6 hg6 hr6
      have HA6 : Hid (KrNew w2 w6 v6 (rowK (delL key l)) r6) := by
        have := HA4.out.app ho6 hg6 hr6
        unfold Hid
        rw [HDEL.out]
        simpa using this
      obtain ⟨N6, a6, cc6, rfl⟩ : ∃ N a c, v6 = .slice a N c := by
        obtain ⟨a6, cc6, e, -, -⟩ := ho6.shape
        exact ⟨_, a6, cc6, e⟩
      clear ho6 hg6 hr6 HA4 c1
      have HB6 : Hid (Below w0.heap.size w0 w6) := (HUP.out _ _ _ _ HA6.out).below
      have HF6 : Hid (XPut w (w6.setCell ⟨gx, 0, none⟩ (.slice a6 N6 cc6)) gx (some g) (delL key l) (.slice a6 N6 cc6) r6) := HFIN.out w6 _ r6 (HUP.out _ _ _ _ HA6.out)
      have hrr : r6 ≠ some w.heap.size := fun e => by have := HA6.out.new _ e; omega
      have c6 := (HPR.out w6 HB6.out).1.cell
      have f6 := (HPR.out w6 HB6.out).1.froz
      have hg7 := grow_setC w6 gx 0 (.slice a6 N6 cc6)
      have hs6 := HA6.out.below.size
      obtain ⟨w7, hw7⟩ : ∃ w7, w6.setCell ⟨gx, 0, none⟩ (.slice a6 N6 cc6) = w7 := ⟨_, rfl⟩
      rw [hw7] at hg7
      have hbR : w7.heap[w.heap.size]? = w6.heap[w.heap.size]? := hg7.block _ (by omega) (fun e => by cases e; omega)
      obtain ⟨r0, r1, r2, r3, r4, r5⟩ : EnAt w7 w.heap.size En.zero := (HPR.out w6 HB6.out).2.1.block hbR
      obtain ⟨o0, o1, o2, o3, o4, o5⟩ : EnAt w7 w1.heap.size ⟨x1, x2, x3, x4, x5, x6⟩ := (HOL.out w6 HA6.out.below).block (hg7.block _ (by omega) (fun e => by cases e; omega))
      simp only [En.zero] at r0 r1 r2 r3 r4 r5
      have hF7 : ∀ j, w7.frozen? ⟨w.heap.size, j, none⟩ = false := fun j => (World.frozen?_of_block (w := w6) (a := ⟨w.heap.size, j, none⟩) hbR).trans ((HPR.out w6 HB6.out).2.2 j)
      have g0 := hF7 0
      have g1 := hF7 1
      have g2 := hF7 2
      have g3 := hF7 3
      have g4 := hF7 4
      have g5 := hF7 5
      rw [hw7] at HF6
      have HF7 : Hid (XPut w (putEn w7 w.heap.size ⟨x1, x2, x3, x4, x5, x6⟩) gx (some g) (delL key l) (.slice a6 N6 cc6) r6) := HF6.out.box ⟨x1, x2, x3, x4, x5, x6⟩ (by omega) hgl hrr
      clear hF7 hbR hg7 HF6 HA6 HPR HFIN HDEL HUP HOL HB6 HB4 HB2
      go_wp2
      refine bodyPost_ret (v := .tuple #[En.v ⟨x1, x2, x3, x4, x5, x6⟩, .bool true]) ?_ rfl ⟨rfl, _, _, HF7.out⟩
      simp only [results, hresXremove]
      go_simp
    · go_wp2_with (at_builtin; refine wpList_append_ka _ rfl _ _ rfl _ _ ((rowK l).take k) ((rowK l).drop (k + 1)) r4 rfl rfl ?hOwnC ?hSrcC ?hLenC ?_)
      case hOwnC => exact HA4.out.row
      case hSrcC => first | exact xsrcDrop (HCS.out _ HB4.out) (by omega) (by omega) | exact CellsAt.srcEnd (by omega) (by omega)
      case hLenC => simp; omega
      intro v6 w6 r6 ho6 hg6 hr6
      have HA6 : Hid (KrNew w2 w6 v6 (rowK (delL key l)) r6) := by
        have := HA4.out.app ho6 hg6 hr6
        unfold Hid
        rw [HDEL.out]
        simpa using this
      obtain ⟨N6, a6, cc6, rfl⟩ : ∃ N a c, v6 = .slice a N c := by
        obtain ⟨a6, cc6, e, -, -⟩ := ho6.shape
        exact ⟨_, a6, cc6, e⟩
      clear ho6 hg6 hr6 HA4 c1
      have HB6 : Hid (Below w0.heap.size w0 w6) := (HUP.out _ _ _ _ HA6.out).below
      have HF6 : Hid (XPut w (w6.setCell ⟨gx, 0, none⟩ (.slice a6 N6 cc6)) gx (some g) (delL key l) (.slice a6 N6 cc6) r6) := HFIN.out w6 _ r6 (HUP.out _ _ _ _ HA6.out)
      have hrr : r6 ≠ some w.heap.size := fun e => by have := HA6.out.new _ e; omega
      have c6 := (HPR.out w6 HB6.out).1.cell
      have f6 := (HPR.out w6 HB6.out).1.froz
      have hg7 := grow_setC w6 gx 0 (.slice a6 N6 cc6)
      have hs6 := HA6.out.below.size
      obtain ⟨w7, hw7⟩ : ∃ w7, w6.setCell ⟨gx, 0, none⟩ (.slice a6 N6 cc6) = w7 := ⟨_, rfl⟩
      rw [hw7] at hg7
      have hbR : w7.heap[w.heap.size]? = w6.heap[w.heap.size]? := hg7.block _ (by omega) (fun e => by cases e; omega)
      obtain ⟨r0, r1, r2, r3, r4, r5⟩ : EnAt w7 w.heap.size En.zero := (HPR.out w6 HB6.out).2.1.block hbR
      obtain ⟨o0, o1, o2, o3, o4, o5⟩ : EnAt w7 w1.heap.size ⟨x1, x2, x3, x4, x5, x6⟩ := (HOL.out w6 HA6.out.below).block (hg7.block _ (by omega) (fun e => by cases e; omega))
      simp only [En.zero] at r0 r1 r2 r3 r4 r5
      have hF7 : ∀ j, w7.frozen? ⟨w.heap.size, j, none⟩ = false := fun j => (World.frozen?_of_block (w := w6) (a := ⟨w.heap.size, j, none⟩) hbR).trans ((HPR.out w6 HB6.out).2.2 j)
      have g0 := hF7 0
      have g1 := hF7 1
      have g2 := hF7 2
      have g3 := hF7 3
      have g4 := hF7 4
      have g5 := hF7 5
      rw [hw7] at HF6
      have HF7 : Hid (XPut w (putEn w7 w.heap.size ⟨x1, x2, x3, x4, x5, x6⟩) gx (some g) (delL key l) (.slice a6 N6 cc6) r6) := HF6.out.box ⟨x1, x2, x3, x4, x5, x6⟩ (by omega) hgl hrr
      clear hF7 hbR hg7 HF6 HA6 HPR HFIN HDEL HUP HOL HB6 HB4 HB2
      go_wp2
      refine bodyPost_ret (v := .tuple #[En.v ⟨x1, x2, x3, x4, x5, x6⟩, .bool true]) ?_ rfl ⟨rfl, _, _, HF7.out⟩
      simp only [results, hresXremove]
      go_simp
theorem src_x {w : World} {v : Value} {ts : List Kr} {r : Option Nat} (h : OwnKr w v ts r) : Src Try.prog 7 43 v ts.length (kcells ts) w := by
  cases r with
  | none =>
    rcases h with ⟨rfl, rfl, _⟩ | ⟨g, c, e, _⟩
    · exact src_none w
    · cases e
  | some g =>
    obtain ⟨a, cap, e, _, _⟩ := h.shape
    have hr := h
    rcases h with ⟨_, _, e⟩ | ⟨g', c, e1, e2, _⟩
    · cases e
    · cases e1
      subst e2
      have := xsrcTake (k := ts.length) (c := c) (fun j hj => hr.at hj) (Nat.le_refl _)
      rwa [List.take_length] at this
theorem step_append_ka {ops : Array Oper} {o : Oper} {a : Act} {w : World} {K : Act → World → Prop} {Q : Exit → Act → World → Prop} {E : Prop}
    (hg : o.guard = none) (s x : Operand) (hop : o.op = Op.call { callee := Callee.builtin Builtin.append, args := #[s, x], argTypes := #[43, 43] }) (v xv : Value) (ts ks : List Kr) (r : Option Nat)
    (hs : a.eval s = v) (hx : a.eval x = xv) (hown : OwnKr w v ts r) (hsrc : Src Try.prog 7 43 xv ks.length (kcells ks) w) (hlen : ts.length + ks.length ≤ 2199023255552)
    (hK : ∀ v' w' r', OwnKr w' v' (ts ++ ks) r' → w.grownBy w' r → (r' = r ∨ r' = some w.heap.size) → K (a.put o.dst v') w') :
    if Region.wanted o (yielded ops a.tmps) = true then Oper.wp Try.prog o a w K Q else E := by
  by_cases hr0 : r ≠ none ∨ 0 < ks.length
  · exact step_append_kr hg s x hop v xv ts ks r hs hx hown hsrc hlen hr0 fun v' w' g h1 h2 h3 => hK v' w' (some g) h1 h2 (h3.imp id fun e => by rw [e])
  · have hr : r = none := by
      rcases Classical.em (r = none) with h | h
      · exact h
      · exact absurd (.inl h) hr0
    have hk : ks = [] := by
      rcases ks with _ | ⟨y, ys⟩
      · rfl
      · exact absurd (.inr (by simp)) hr0
    subst hk
    have hw : Region.wanted o (yielded ops a.tmps) = true := by simp [Region.wanted, hg]
    rw [if_pos hw]
    rcases hown with ⟨rfl, rfl, -⟩ | ⟨g, _, e, _⟩
    · have hrun := run_append_nilk w o.type xv hsrc
      unfold Oper.wp
      simp [execOp, hop, resolve, invoke, builtin, hs, hx, hrun, Result.andThen]
      exact hK _ _ none (OwnKr.nil w) (below_grow (Below.refl _ _) _) (.inl hr.symm)
    · rw [hr] at e; cases e
set_option maxHeartbeats 4000000 in
theorem xfreezeOf (gx : Nat) (v : Value) (l : List Ke) (r : Option Nat) (w : World) (h : XDirAt w gx v l r) :
    Calls Try.prog 36 #[.pointer (some ⟨gx, 0, none⟩)] w fun e w' => e = .returned (.pointer (some ⟨w.heap.size, 0, none⟩)) ∧ ∃ v' r', XDirAt w' w.heap.size v' l r' ∧ (∀ g, r' = some g → w.heap.size < g) ∧ Below w.heap.size w w' := by
  obtain ⟨a, cap, rfl, hc1, hc2⟩ := h.shape
  obtain ⟨w0, hw0⟩ : ∃ w0, w.alloc (.cells #[.slice none 0 0] 45) = w0 := ⟨_, rfl⟩
  have hs0 : w0.heap.size = w.heap.size + 1 := by rw [← hw0]; simp
  have hb0 : Below w.heap.size w w0 := by rw [← hw0]; exact (Below.refl _ _).alloc (Nat.le_refl _) _
  have n0 : w0.cell? ⟨w.heap.size, 0, none⟩ = some (.slice none 0 0) := by rw [← hw0]; exact World.cell?_alloc_at _ _ _ _ rfl
  have f0 : w0.frozen? ⟨w.heap.size, 0, none⟩ = false := by rw [← hw0]; exact World.frozen?_alloc_at _ _ _ _ rfl
  have HX : Hid (XDirAt w0 gx (.slice a l.length cap) l r) := h.later hb0
  have HB0 : Hid (Below w.heap.size w w0) := hb0
  have c0 := HX.out.cell
  have hll := HX.out.len
  have hgl := h.lt
  have hrl : (rowK l).length = l.length := by simp
  clear h hb0
  go_enter Try.func36, Try.ntmps36
  have HSX : Hid (∀ u, Below w0.heap.size w0 u → Src Try.prog 7 43 (.slice a l.length cap) (rowK l).length (kcells (rowK l)) u) := fun u hu => src_x (HX.out.later hu).row
  have HFIN : Hid (∀ wd w4 v4 r4, Below w0.heap.size w0 wd → OwnKr w4 v4 ([] ++ rowK l) r4 → wd.grownBy w4 none → (r4 = none ∨ r4 = some wd.heap.size) → (∃ a6 N6 cc6, v4 = .slice a6 N6 cc6) ∧ (w4.cell? ⟨w.heap.size, 0, none⟩ = some (.slice none 0 0) ∧ w4.frozen? ⟨w.heap.size, 0, none⟩ = false) ∧ ∀ u, Below (w4.setCell ⟨w.heap.size, 0, none⟩ v4).heap.size (w4.setCell ⟨w.heap.size, 0, none⟩ v4) u → XDirAt u w.heap.size v4 l r4 ∧ (∀ g, r4 = some g → w.heap.size < g) ∧ Below w.heap.size w u) := fun wd w4 v4 r4 hbd ho4 hg4 hr4 => by
    have hN4 : KrNew w0 w4 v4 (rowK l) r4 := ((KrNew.nil w0).later hbd).app (by simpa using ho4) hg4 hr4
    have n4 : w4.cell? ⟨w.heap.size, 0, none⟩ = some (.slice none 0 0) := (hN4.below.cell (p := ⟨w.heap.size, 0, none⟩) (by show w.heap.size < w0.heap.size; omega)).trans n0
    have f4 : w4.frozen? ⟨w.heap.size, 0, none⟩ = false := (hN4.below.frozen (p := ⟨w.heap.size, 0, none⟩) (by show w.heap.size < w0.heap.size; omega)).trans f0
    have hg := grow_setC w4 w.heap.size 0 v4
    have hn : ∀ g, r4 = some g → w.heap.size < g := fun g e => by have := hN4.new g e; omega
    have hne : r4 ≠ some w.heap.size := fun e => by have := hn _ e; omega
    have hb4 : Below w.heap.size w w4 := HB0.out.trans (hN4.below.mono HB0.out.size)
    have hb5 : Below w.heap.size w (w4.setCell ⟨w.heap.size, 0, none⟩ v4) := hb4.grown hg hb4.size (fun g e => by cases e; exact Nat.le_refl _)
    have hd : XDirAt (w4.setCell ⟨w.heap.size, 0, none⟩ v4) w.heap.size v4 l r4 := ⟨World.cell?_setCell_same' _ _ _ (by rw [n4]; rfl), by rw [World.frozen?_setCell]; exact f4, hN4.row.kept hg (.inr hne), hne, HX.out.srt, HX.out.short, HX.out.len⟩
    refine ⟨?_, ⟨n4, f4⟩, fun u hu => ⟨hd.later hu, hn, hb5.trans (hu.mono hb5.size)⟩⟩
    obtain ⟨a6, cc6, e, -, -⟩ := ho4.shape
    exact ⟨a6, _, cc6, e⟩
  go_wp2
  go_region_law (refine step_append_ka rfl (.tmp 10) (.tmp 14) rfl (.slice none 0 0) (.slice a l.length cap) [] (rowK l) none (by first | rfl | simp [Act.eval, Act.put]) (by first | rfl | simp [Act.eval, Act.put]) (OwnKr.nil _) (HSX.out _ (by first | exact Below.refl _ _ | exact Below.drew (Below.refl _ _))) (by simp; omega) ?_
                 intro v4 w4 r4 ho4 hg4 hr4
                 obtain ⟨⟨a6, N6, cc6, rfl⟩, ⟨n4, f4⟩, q⟩ := HFIN.out _ w4 _ r4 (by first | exact Below.refl _ _ | exact Below.drew (Below.refl _ _)) ho4 hg4 hr4
                 have HQ : Hid (∀ u, Below (w4.setCell ⟨w.heap.size, 0, none⟩ (.slice a6 N6 cc6)).heap.size (w4.setCell ⟨w.heap.size, 0, none⟩ (.slice a6 N6 cc6)) u → XDirAt u w.heap.size (.slice a6 N6 cc6) l r4 ∧ (∀ g, r4 = some g → w.heap.size < g) ∧ Below w.heap.size w u) := q
                 clear ho4 hg4 hr4 q)
  all_goals
    go_wp2
    go_ret
    exact ⟨rfl, _, _, HQ.out _ (by first | exact Below.refl _ _ | exact Below.drew (Below.refl _ _))⟩
theorem xnewOf (w : World) : Calls Try.prog 5 #[] w fun e w' => e = .returned (.pointer (some ⟨w.heap.size, 0, none⟩)) ∧ XDirAt w' w.heap.size (.slice none 0 0) [] none ∧ Below w.heap.size w w' := by
  have HF : Hid (XDirAt (w.alloc (.cells #[.slice none 0 0] 45)) w.heap.size (.slice none 0 0) [] none) := ⟨World.cell?_alloc_at _ _ _ _ rfl, World.frozen?_alloc_at _ _ _ _ rfl, OwnKr.nil _, by simp, Srt.nil, by simp, by simp⟩
  go_enter Try.func5, Try.ntmps5
  go_wp2
  go_ret
  exact ⟨rfl, HF.out, (Below.refl _ _).alloc (Nat.le_refl _) _⟩
end Go.Proofs.Ytjhbaplnkigifaa
