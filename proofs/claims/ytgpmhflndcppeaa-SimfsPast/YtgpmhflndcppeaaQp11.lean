import Derived.Test.YtgpmhflndcppeaaQp10
import Derived.Test.YtgpmhflndcppeaaQp09
/-! A step that appends; any changing step. -/
namespace Go.Proofs.Ytgpmhflndcppeaa
open Go.RowKit Go.Maps Plain
set_option linter.unusedVariables false
set_option linter.unusedSimpArgs false

theorem Own.apart {w w' : World} {S : Nat → Prop} {v : Value} {l : List Nat} {g : Nat} (h : Own w v l (some g)) (hc : Chg S w w') (hg : ¬ S g) : Own w' v l (some g) :=
  h.of_block hc.size (fun g' e => by simp at e; subst e; exact hc.block _ h.lt hg)
theorem BytesAt.head {w : World} {g cap n : Nat} {l m : List Nat} (h : Own w (.slice (some ⟨g, 0, none⟩) n cap) (l ++ m) (some g)) : BytesAt w (.slice (some ⟨g, 0, none⟩) l.length cap) l := by
  have := h.bytes.take l.length (by simp)
  rwa [List.take_left'] at this
  rfl

set_option maxHeartbeats 4000000 in
set_option maxRecDepth 1000000 in
theorem changeAppend {W w : World} {d n : Nat} {k : Dk} (nm to : ByteArray) (at' m : Int) (vb vp : Value) (l : List Nat) (h : Dsk W d k w) (hs : nm.size ≤ maxLen) (hb : BytesAt w vb l) (hw : ∀ w', Below W.heap.size W w' → BytesAt w' vb l) (hl : l.length ≤ 140737488351232) (hk : k.Dok n) (hu : k.Uok) (hn : n ≤ 4398046511103) :
    Calls Try.prog 8 #[.pointer (some ⟨d, 0, none⟩), .agg #[.int .i64 2, .string nm, .string to, .int .i64 at', .int .i64 m, vb, vp]] w (ChPost W d (fun _ => appendK k nm l) w) := by
  obtain ⟨h1, S, h2, h3⟩ := h
  have hS := h2.rng
  have HB : Hid (BytesAt w vb l) := hb
  have HWW : Hid (∀ w', Below W.heap.size W w' → BytesAt w' vb l) := hw
  have H0 : Hid (Below W.heap.size W w ∧ DiskAt w d k S ∧ (∀ x, S x → W.heap.size ≤ x) ∧ ∀ x, S x → x < w.heap.size) := ⟨h1, h2, h3, hS⟩
  have HAP : Hid (∀ (w1 : World) (g cap : Nat), Below w.heap.size w w1 → w.heap.size ≤ g → Own w1 (.slice (some ⟨g, 0, none⟩) (l.length + 8) cap) (l ++ marks 8) (some g) → Calls Try.prog 13 #[.pointer (some ⟨d, 0, none⟩), .string nm, .slice (some ⟨g, 0, none⟩) l.length cap] w1 (OpPost d (appendK k nm l) S w1)) := fun w1 g cap hb1 hg ho =>
    appendOf d k n S nm hs _ l w1 (h2.later hb1) hk.ok hu hn (fun w' hc => BytesAt.head (ho.apart hc (fun e => by have := hS g e; omega)))
  have hW0 := h1.size
  obtain ⟨R, hR⟩ : ∃ R, appendK k nm l = R := ⟨_, rfl⟩
  rw [hR] at HAP
  rw [show (fun _ : Nat => appendK k nm l) = fun _ => R by rw [hR]]
  clear h1 h2 h3 hS hb hw hk hu hR
  go_enter Try.func8, Try.ntmps8
  go_wp2_with fail
  refine (roomy _ l _ (HB.out.later ((Below.refl _ _).alloc (Nat.le_refl _) _)) hl).mono ?_
  rintro e w1 ⟨g, cap, rfl, ho, hg, hb1⟩
  have HO : Hid (Own w1 (.slice (some ⟨g, 0, none⟩) (l.length + 8) cap) (l ++ marks 8) (some g)) := ho
  have hgw : w.heap.size + 1 ≤ g := by simpa using hg
  have HB1 : Hid (Below (w.heap.size + 1) (w.alloc (.cells #[.int .i64 2, .string nm, .string to, .int .i64 at', .int .i64 m, vb, vp] 31)) w1) := by unfold Hid; simpa using hb1
  have HBL : Hid (Below w.heap.size w w1) := ((Below.refl _ _).alloc (Nat.le_refl _) _).trans (HB1.out.mono (by omega))
  clear ho hg hb1
  have c1 : w1.cell? ⟨w.heap.size, 1, none⟩ = some (.string nm) := by
    rw [HB1.out.cell (p := ⟨_, _, none⟩) (by simp)]; simp
  have c5 : w1.cell? ⟨w.heap.size, 5, none⟩ = some vb := by
    rw [HB1.out.cell (p := ⟨_, _, none⟩) (by simp)]; simp
  have hs1 := HB1.out.size
  go_wp2_with fail
  refine (HAP.out w1 g cap HBL.out (by omega) HO.out).mono ?_
  rintro e w2 ⟨rfl, hd2, hc2⟩
  have hs2 := hc2.size
  have hglt : g < w1.heap.size := HO.out.lt
  have hnS : ∀ x, w.heap.size ≤ x → ¬ S x := fun x hx e => by have := H0.out.2.2.2 x e; omega
  have HD2 : Hid (DiskAt w2 d R.2 (Ext S w1 w2) ∧ (∀ x, Ext S w1 w2 x → W.heap.size ≤ x) ∧ ¬ Ext S w1 w2 g) := by
    refine ⟨hd2, fun x hx => ?_, fun hx => ?_⟩
    · rcases hx with hx | hx
      · exact H0.out.2.2.1 x hx
      · simp at hs1; omega
    · rcases hx with hx | hx
      · exact hnS g (by omega) hx
      · omega
  have HBB : Hid (Below W.heap.size W w2) := (H0.out.1.trans (HBL.out.mono hW0)).trans (hc2.below (by simp at hs1; omega) H0.out.2.2.1)
  have d5 : w2.cell? ⟨w.heap.size, 5, none⟩ = some vb := by
    rw [World.cell?_of_block (w := w1) (a := ⟨w.heap.size, 5, none⟩) (hc2.block w.heap.size (by simp at hs1; omega) (hnS _ (Nat.le_refl _)))]; exact c5
  have HO2 : Hid (Own w2 (.slice (some ⟨g, 0, none⟩) (l.length + 8) cap) (l ++ marks 8) (some g)) := HO.out.apart hc2 (hnS g (by omega))
  clear c1 c5 HO HB1 hs1 hd2 hc2 hnS HAP
  go_wp2_with fail
  refine (kept g cap l l vb w2 (HWW.out w2 HBB.out) rfl HO2.out).mono ?_
  rintro e w3 ⟨rfl, q, rfl⟩
  obtain ⟨hby, hr⟩ := HO2.out
  rcases hr with ⟨e, _⟩ | ⟨g', cap', e, e2, hg, h1, h2, h3, h4, h5⟩
  · simp at e
  simp at e; subst e
  simp only [Value.slice.injEq, true_and] at e2
  obtain ⟨-, rfl⟩ := e2
  have hc8 : l.length + 8 ≤ cap := by simp [marks_len] at h1; omega
  have H3 : Hid (∀ j, j < cap → w2.frozen? ⟨g, j, none⟩ = false) := h3
  have H4 : Hid (∀ j, j < cap → (w2.cell? ⟨g, j, none⟩).isSome = true) := h4
  unfold maxLen at h2
  clear hby h1 h3 h4 h5 HO2 hg d5
  simp only [decide_true]
  go_wp2
  go_loopw [9] (fun i wr => ∃ kk : Nat, kk ≤ l.length ∧ i = .int .i64 kk ∧ Below W.heap.size W wr ∧ DiskAt wr d R.2 (Ext S w1 w2) ∧ (∀ j, wr.frozen? ⟨g, j, none⟩ = w2.frozen? ⟨g, j, none⟩) ∧ (∀ j, j < cap → (wr.cell? ⟨g, j, none⟩).isSome = true)) (fun i _ => l.length - (intOf i).toNat)
  case atStart => exact ⟨0, by omega, rfl, HBB.out.trans ((below_drewN' w2 q).mono HBB.out.size), HD2.out.1.later (below_drewN' w2 q), fun _ => rfl, H4.out⟩
  case round =>
    obtain ⟨kk, hkk, rfl, hbl, hdd, hfr, hsome⟩ := hrel
    by_cases hlt : kk < l.length
    · obtain ⟨old, hold⟩ := Option.isSome_iff_exists.mp (hsome kk (by omega))
      have hfz : wr.frozen? ⟨g, kk, none⟩ = false := by rw [hfr]; exact H3.out kk (by omega)
      have HREL : Hid (Below W.heap.size W (wr.setCell ⟨g, kk, none⟩ (.int .u8 77)) ∧ DiskAt (wr.setCell ⟨g, kk, none⟩ (.int .u8 77)) d R.2 (Ext S w1 w2) ∧ (∀ j, (wr.setCell ⟨g, kk, none⟩ (.int .u8 77)).frozen? ⟨g, j, none⟩ = w2.frozen? ⟨g, j, none⟩) ∧
          (∀ j, j < cap → ((wr.setCell ⟨g, kk, none⟩ (.int .u8 77)).cell? ⟨g, j, none⟩).isSome = true)) := by
        refine ⟨hbl.setCell (by simp; omega) _, hdd.frame (by simp) (fun x hx => (grow_set wr g kk (.int .u8 77)).block x (hdd.rng x hx) (fun e => by simp at e; subst e; exact HD2.out.2.2 hx)), fun j => ?_, fun j hj => ?_⟩
        · rw [← hfr j]; exact World.frozen?_setCells g [.int .u8 77] kk wr _
        · exact isSome_setCells g [.int .u8 77] kk wr _ (hsome j hj)
      clear hbl hfr hsome hdd
      go_wp2
      go_roundw
      case rel => exact ⟨kk + 1, by omega, by go_num, HREL.out⟩
      case measure => simp [intOf]; omega
    · have HP : Hid (ChPost W d (fun _ => R) w (.returned (.tuple #[.int .i64 R.1, .bool true])) wr) := ⟨_, Nat.le_refl _, rfl, hbl, _, hdd, HD2.out.2.1⟩
      clear hbl hfr hsome hdd
      go_wp2
      go_ret2
      exact HP.out
end Go.Proofs.Ytgpmhflndcppeaa

/-! What is used is what the files have: kept by every operation. -/
namespace Go.Proofs.Ytgpmhflndcppeaa
open Go.RowKit Go.Maps Plain
set_option linter.unusedVariables false
set_option linter.unusedSimpArgs false

theorem ins_perm (x : Nm × Nat) : ∀ L : Dir, (ins x L).Perm (x :: L)
  | [] => List.Perm.refl _
  | y :: r => by
    unfold ins
    split
    · exact List.Perm.refl _
    · exact ((ins_perm x r).cons y).trans (List.Perm.swap x y r)
theorem put_perm (L : Dir) (k : Nm) (g : Nat) : (put L k g).Perm ((k, g) :: del L k) := ins_perm _ _
theorem look_none {L : Dir} {k : Nm} (h : look L k = none) : ∀ p ∈ L, p.1 ≠ k := by
  intro p hp e
  obtain ⟨g, hg⟩ := look_some (L := L) (k := k) (List.mem_map.mpr ⟨p, hp, e⟩)
  rw [h] at hg
  simp at hg
theorem del_none {L : Dir} {k : Nm} (h : look L k = none) : del L k = L := by
  unfold del
  rw [List.filter_eq_self]
  intro p hp
  have := look_none h p hp
  simp [this]
theorem look_of_mem {L : Dir} {k : Nm} {g : Nat} (hn : (L.map (·.1)).Nodup) (h : (k, g) ∈ L) : look L k = some g := by
  induction L with
  | nil => simp at h
  | cons p r ih =>
    rw [List.map_cons, List.nodup_cons] at hn
    unfold look
    rw [List.find?_cons]
    rcases List.mem_cons.mp h with e | e
    · subst e; simp
    · have hne : p.1 ≠ k := fun e2 => hn.1 (List.mem_map.mpr ⟨_, e, e2.symm⟩)
      have : (p.1 == k) = false := by simpa using hne
      rw [this]
      exact ih hn.2 e
theorem del_cons (p : Nm × Nat) (L : Dir) (k : Nm) : del (p :: L) k = if p.1 = k then del L k else p :: del L k := by
  unfold del
  rw [List.filter_cons]
  by_cases h : p.1 = k <;> simp [h]
theorem look_perm {L : Dir} {k : Nm} {g : Nat} (hn : (L.map (·.1)).Nodup) (h : look L k = some g) : L.Perm ((k, g) :: del L k) := by
  induction L with
  | nil => simp [look] at h
  | cons p r ih =>
    rw [List.map_cons, List.nodup_cons] at hn
    rw [del_cons]
    by_cases e : p.1 = k
    · have hp : p = (k, g) := by
        unfold look at h
        rw [List.find?_cons, show (p.1 == k) = true by simpa using e] at h
        simp at h
        rw [← e, ← h]
      have hd : del r k = r := by
        unfold del
        rw [List.filter_eq_self]
        intro q hq
        have : q.1 ≠ k := fun e2 => hn.1 (List.mem_map.mpr ⟨q, hq, by rw [e2, e]⟩)
        simp [this]
      rw [if_pos e, hd, hp]
    · rw [if_neg e]
      have h' : look r k = some g := by
        unfold look at h ⊢
        rw [List.find?_cons, show (p.1 == k) = false by simpa using e] at h
        exact h
      exact ((ih hn.2 h').cons p).trans (List.Perm.swap _ _ _)
theorem look_del {L : Dir} {s t : Nm} (h : s ≠ t) : look (del L t) s = look L s := by
  induction L with
  | nil => rfl
  | cons p r ih =>
    rw [del_cons]
    by_cases e : p.1 = t
    · rw [if_pos e, ih]
      unfold look
      rw [List.find?_cons, show (p.1 == s) = false by simpa using fun e2 : p.1 = s => h (by rw [← e2, e])]
    · rw [if_neg e]
      unfold look at ih ⊢
      rw [List.find?_cons, List.find?_cons]
      by_cases e3 : p.1 = s
      · rw [show (p.1 == s) = true by simpa using e3]
      · rw [show (p.1 == s) = false by simpa using e3]
        exact ih

def tT (f : Nat → Nat) (L : Dir) : Nat := (L.map fun p => f p.2).sum
theorem tT_perm {f : Nat → Nat} {L M : Dir} (h : L.Perm M) : tT f L = tT f M := (h.map _).sum_nat
theorem tT_cons (f : Nat → Nat) (p : Nm × Nat) (L : Dir) : tT f (p :: L) = f p.2 + tT f L := by simp [tT]
theorem tT_congr {f f' : Nat → Nat} {L : Dir} (h : ∀ p ∈ L, f p.2 = f' p.2) : tT f L = tT f' L := by
  unfold tT
  rw [List.map_congr_left h]
theorem tT_mem {f : Nat → Nat} {L : Dir} {p : Nm × Nat} (h : p ∈ L) : f p.2 ≤ tT f L := by
  induction L with
  | nil => simp at h
  | cons q r ih =>
    rw [tT_cons]
    rcases List.mem_cons.mp h with e | e
    · subst e; omega
    · have := ih e; omega
theorem tT_upd {f f' : Nat → Nat} {L : Dir} {G : Nat} (hn : (L.map (·.2)).Nodup) (hG : G ∈ L.map (·.2)) (h : ∀ x, x ≠ G → f' x = f x) : tT f' L + f G = tT f L + f' G := by
  induction L with
  | nil => simp at hG
  | cons p r ih =>
    rw [List.map_cons, List.nodup_cons] at hn
    rw [tT_cons, tT_cons]
    by_cases e : p.2 = G
    · have : tT f' r = tT f r := tT_congr (fun q hq => h _ (fun e2 => hn.1 (List.mem_map.mpr ⟨q, hq, by rw [e2, e]⟩)))
      rw [this, e]; omega
    · have hG' : G ∈ r.map (·.2) := by
        rw [List.map_cons, List.mem_cons] at hG
        rcases hG with h1 | h1
        · exact absurd h1.symm e
        · exact h1
      have := ih hn.2 hG'
      rw [h p.2 e]; omega

def Dk.len (k : Dk) : Nat → Nat := fun G => (k.file G).seen.length
/-- No name twice, no file under two names; what is used is what the files have. -/
structure Dk.Sum (k : Dk) : Prop where
  keys : (k.L.map (·.1)).Nodup
  files : (k.L.map (·.2)).Nodup
  used : k.used = (tT k.len k.L : Int)
  quota : 0 ≤ k.quota ∧ k.quota ≤ 1073741824
  lim : k.used ≤ 1073741824
theorem Dk.Sum.uok {k : Dk} (h : k.Sum) : k.Uok :=
  ⟨⟨by rw [h.used]; omega, h.lim⟩, h.quota, fun p hp => by have := tT_mem (f := k.len) hp; have h2 := h.used; unfold Dk.len at this h2; omega⟩
theorem Dk.Sum.spent {k : Dk} (h : k.Sum) : k.spent.Sum := ⟨h.keys, h.files, h.used, h.quota, h.lim⟩
theorem look_file {L : Dir} {s : Nm} {g : Nat} (h : look L s = some g) : g ∈ L.map (·.2) := List.mem_map.mpr ⟨_, look_mem h, rfl⟩

theorem create_sum {k : Dk} {G : Nat} {s : ByteArray} (h : k.Sum) (hl : ∀ p ∈ k.L, k.live p.2) (hG : ¬ k.live G) : (createK k s G).2.Sum := by
  unfold createK
  split
  · exact h
  · split
    · exact h
    · rename_i hs
      have hn : look k.L s.data.toList = none := by cases hh : look k.L s.data.toList with
        | none => rfl
        | some g => rw [hh] at hs; simp at hs
      split
      · exact h
      · split
        · have hp : ((k.spent.addFile G).did (DC.mk s.data.toList G)).L.Perm ((s.data.toList, G) :: k.L) := by
            have := put_perm k.L s.data.toList G
            rw [del_none hn] at this
            exact this
          have hGL : ∀ p ∈ k.L, p.2 ≠ G := fun p hp e => hG (e ▸ hl p hp)
          refine ⟨(hp.map _).nodup_iff.mpr ?_, (hp.map _).nodup_iff.mpr ?_, ?_, h.quota, h.lim⟩
          · rw [List.map_cons, List.nodup_cons]
            refine ⟨fun hm => ?_, h.keys⟩
            obtain ⟨p, hp1, hp2⟩ := List.mem_map.mp hm
            exact look_none hn p hp1 hp2
          · rw [List.map_cons, List.nodup_cons]
            refine ⟨fun hm => ?_, h.files⟩
            obtain ⟨p, hp1, hp2⟩ := List.mem_map.mp hm
            exact hGL p hp1 hp2
          · rw [tT_perm hp, tT_cons]
            have e1 : ((k.spent.addFile G).did (DC.mk s.data.toList G)).len G = 0 := by
              show (upd k.file G ⟨[], [], []⟩ G).seen.length = 0
              rw [upd_same]; rfl
            have e2 : tT ((k.spent.addFile G).did (DC.mk s.data.toList G)).len k.L = tT k.len k.L := tT_congr (fun p hp => by
              show (upd k.file G ⟨[], [], []⟩ p.2).seen.length = _
              rw [upd_other _ _ _ _ (hGL p hp)]; rfl)
            show k.used = _
            rw [e1, e2, h.used]; omega
        · exact h.spent
theorem append_sum {k : Dk} {s : ByteArray} {b : List Nat} (h : k.Sum) : (appendK k s b).2.Sum := by
  unfold appendK
  split
  · split
    · exact h
    · rename_i hq
      split
      · rename_i G hG
        split
        · have hT := tT_upd (f := k.len) (f' := ((k.spent.setFile G ((k.file G).add b)).uses (k.used + b.length)).len) h.files (look_file hG) (fun x hx => by
            show (upd k.file G ((k.file G).add b) x).seen.length = _
            rw [upd_other _ _ _ _ hx]; rfl)
          have e1 : ((k.spent.setFile G ((k.file G).add b)).uses (k.used + b.length)).len G = k.len G + b.length := by
            show (upd k.file G ((k.file G).add b) G).seen.length = _
            rw [upd_same]
            simp [Fl.add, Dk.len]
          have hu := h.used
          have hq1 := h.quota
          have hlim := h.lim
          refine ⟨h.keys, h.files, ?_, h.quota, ?_⟩
          · show k.used + (b.length : Int) = (tT ((k.spent.setFile G ((k.file G).add b)).uses (k.used + b.length)).len k.L : Int)
            omega
          · show k.used + (b.length : Int) ≤ 1073741824
            omega
        · exact h.spent
      · exact h
  · exact h
theorem trunc_sum {k : Dk} {s : ByteArray} {m : Int} (h : k.Sum) : (truncK k s m).2.Sum := by
  unfold truncK
  split
  · split
    · rename_i G hG
      split
      · exact h
      · rename_i hm
        split
        · have hT := tT_upd (f := k.len) (f' := ((k.spent.uses (k.used - ((k.file G).seen.length - m))).setFile G ((k.file G).trim m.toNat)).len) h.files (look_file hG) (fun x hx => by
            show (upd k.file G ((k.file G).trim m.toNat) x).seen.length = _
            rw [upd_other _ _ _ _ hx]; rfl)
          have e1 : ((k.spent.uses (k.used - ((k.file G).seen.length - m))).setFile G ((k.file G).trim m.toNat)).len G = m.toNat := by
            show (upd k.file G ((k.file G).trim m.toNat) G).seen.length = _
            rw [upd_same]
            simp [Fl.trim]
            omega
          have e2 : k.len G = (k.file G).seen.length := rfl
          have hu := h.used
          have hlim := h.lim
          refine ⟨h.keys, h.files, ?_, h.quota, ?_⟩
          · show k.used - (((k.file G).seen.length : Int) - m) = (tT ((k.spent.uses (k.used - ((k.file G).seen.length - m))).setFile G ((k.file G).trim m.toNat)).len k.L : Int)
            omega
          · show k.used - (((k.file G).seen.length : Int) - m) ≤ 1073741824
            omega
        · exact h.spent
    · exact h
  · exact h
theorem sync_sum {k : Dk} {s : ByteArray} (h : k.Sum) : (syncK k s).2.Sum := by
  unfold syncK
  split
  · split
    · rename_i G hG
      split
      · refine ⟨h.keys, h.files, ?_, h.quota, h.lim⟩
        show k.used = (tT _ k.L : Int)
        rw [h.used, tT_congr (f := k.len) (fun p hp => ?_)]
        show (k.file p.2).seen.length = (upd k.file G ⟨(k.file G).seen, (k.file G).seen, []⟩ p.2).seen.length
        by_cases e : p.2 = G
        · rw [e, upd_same]
        · rw [upd_other _ _ _ _ e]
      · exact h.spent
    · exact h
  · exact h
theorem syncDir_sum {k : Dk} (h : k.Sum) : (syncDirK k).2.Sum := by
  unfold syncDirK
  split
  · exact h
  · split
    · exact ⟨h.keys, h.files, h.used, h.quota, h.lim⟩
    · exact h.spent
theorem sub_nodup {L M : Dir} {p : Nm × Nat} (h : (L.map (·.2)).Nodup) (hp : L.Perm (p :: M)) : (M.map (·.2)).Nodup ∧ ∀ q ∈ M, q.2 ≠ p.2 := by
  have := (hp.map (·.2)).nodup_iff.mp h
  rw [List.map_cons, List.nodup_cons] at this
  exact ⟨this.2, fun q hq e => this.1 (List.mem_map.mpr ⟨q, hq, e⟩)⟩
theorem sub_keys {L M : Dir} {p : Nm × Nat} (h : (L.map (·.1)).Nodup) (hp : L.Perm (p :: M)) : (M.map (·.1)).Nodup ∧ ∀ q ∈ M, q.1 ≠ p.1 := by
  have := (hp.map (·.1)).nodup_iff.mp h
  rw [List.map_cons, List.nodup_cons] at this
  exact ⟨this.2, fun q hq e => this.1 (List.mem_map.mpr ⟨q, hq, e⟩)⟩
theorem remove_sum {k : Dk} {s : ByteArray} (h : k.Sum) : (removeK k s).2.Sum := by
  unfold removeK
  split
  · rename_i h0
    split
    · obtain ⟨G, hG, _⟩ := fnd_ok h0
      have hp := look_perm h.keys hG
      have hs : sizeK k s = k.len G := by unfold sizeK; rw [hG]; rfl
      have ht := tT_perm (f := k.len) hp
      rw [tT_cons] at ht
      have ht' : tT k.len k.L = k.len G + tT k.len (del k.L s.data.toList) := ht
      have hu := h.used
      have hlim := h.lim
      refine ⟨(sub_keys h.keys hp).1, (sub_nodup h.files hp).1, ?_, h.quota, ?_⟩
      · show k.used - (sizeK k s : Int) = (tT k.len (del k.L s.data.toList) : Int)
        omega
      · show k.used - (sizeK k s : Int) ≤ 1073741824
        omega
    · exact h.spent
  · exact h
theorem rename_sum {k : Dk} {s t : ByteArray} (h : k.Sum) : (renameK k s t).2.Sum := by
  unfold renameK
  split
  · exact h
  · split
    · exact h
    · rename_i hst
      have hne : s.data.toList ≠ t.data.toList := fun e => hst (by rw [← str_of s, ← str_of t, e])
      split
      · rename_i h0
        split
        · obtain ⟨g, hg, _⟩ := fnd_ok h0
          have hon : ((k.spent.uses (k.used - sizeK k t)).did (DC.mv s.data.toList t.data.toList)).L = del (put k.L t.data.toList g) s.data.toList := by
            show DC.on k.L (DC.mv s.data.toList t.data.toList) = _
            rw [DC.on_mv, hg]; rfl
          have hpL : ((k.spent.uses (k.used - sizeK k t)).did (DC.mv s.data.toList t.data.toList)).L.Perm ((t.data.toList, g) :: del (del k.L t.data.toList) s.data.toList) := by
            rw [hon]
            have := (put_perm k.L t.data.toList g).filter (fun p => !(p.1 == s.data.toList))
            refine this.trans ?_
            show (del ((t.data.toList, g) :: del k.L t.data.toList) s.data.toList).Perm _
            rw [del_cons, if_neg (fun e => hne e.symm)]
          have hlen : ((k.spent.uses (k.used - sizeK k t)).did (DC.mv s.data.toList t.data.toList)).len = k.len := rfl
          have hu := h.used
          have hlim := h.lim
          have hd : look (del k.L t.data.toList) s.data.toList = some g := by rw [look_del hne]; exact hg
          have fin : ∀ M : Dir, del k.L t.data.toList = M → (M.map (·.1)).Nodup → (∀ q ∈ M, q.1 ≠ t.data.toList) → (M.map (·.2)).Nodup → (tT k.len k.L = sizeK k t + tT k.len M) → ((k.spent.uses (k.used - sizeK k t)).did (DC.mv s.data.toList t.data.toList)).Sum := by
            intro M hM n1 n2 n3 hT
            rw [hM] at hd hpL
            have hpM := look_perm n1 hd
            obtain ⟨a1, a2⟩ := sub_keys n1 hpM
            obtain ⟨b1, b2⟩ := sub_nodup n3 hpM
            have hTM := tT_perm (f := k.len) hpM
            rw [tT_cons] at hTM
            have hTM' : tT k.len M = k.len g + tT k.len (del M s.data.toList) := hTM
            refine ⟨(hpL.map _).nodup_iff.mpr ?_, (hpL.map _).nodup_iff.mpr ?_, ?_, h.quota, ?_⟩
            · rw [List.map_cons, List.nodup_cons]
              refine ⟨fun hm => ?_, a1⟩
              obtain ⟨q, hq1, hq2⟩ := List.mem_map.mp hm
              exact n2 q (mem_del hq1) hq2
            · rw [List.map_cons, List.nodup_cons]
              refine ⟨fun hm => ?_, b1⟩
              obtain ⟨q, hq1, hq2⟩ := List.mem_map.mp hm
              exact b2 q hq1 hq2
            · rw [hlen, tT_perm hpL, tT_cons]
              show k.used - (sizeK k t : Int) = ((k.len g + tT k.len (del M s.data.toList) : Nat) : Int)
              omega
            · show k.used - (sizeK k t : Int) ≤ 1073741824
              omega
          cases ht : look k.L t.data.toList with
          | none =>
            have hs : sizeK k t = 0 := by unfold sizeK; rw [ht]; rfl
            refine fin k.L (del_none ht) h.keys (look_none ht) h.files (by rw [hs]; omega)
          | some x =>
            have hp := look_perm h.keys ht
            have hs : sizeK k t = k.len x := by unfold sizeK; rw [ht]; rfl
            have hT := tT_perm (f := k.len) hp
            rw [tT_cons] at hT
            obtain ⟨a1, a2⟩ := sub_keys h.keys hp
            exact fin _ rfl a1 a2 (sub_nodup h.files hp).1 (by rw [hs]; exact hT)
        · exact h.spent
      · exact h
end Go.Proofs.Ytgpmhflndcppeaa

/-! Fuse. -/
namespace Go.Proofs.Ytgpmhflndcppeaa
open Go.RowKit Go.Maps Plain
set_option linter.unusedVariables false
set_option linter.unusedSimpArgs false
set_option maxRecDepth 1000000

def Dk.fuses (k : Dk) (n : Int) : Dk := { k with fused := decide (0 ≤ n), left := n }
def fuseK (k : Dk) (n : Int) : Dk := if k.dead then k else k.fuses n
theorem fuseSt {S : Nat → Prop} {w w1 : World} {d : Nat} {k : Dk} (h : St S w d k w1) (n : Int) (b : Bool) (hb : b = decide (0 ≤ n)) : St S w d (k.fuses n) ((w1.setCell ⟨d, 6, none⟩ (.bool b)).setCell ⟨d, 7, none⟩ (.int .i64 n)) := by
  subst hb
  obtain ⟨⟨ms, md, vc, rc, Sf, hm, hS1, hS2, hS3⟩, hc⟩ := h
  have hg := grow_trans (grow_set w1 d 6 (.bool (decide (0 ≤ n)))) (grow_set (w1.setCell ⟨d, 6, none⟩ (.bool (decide (0 ≤ n)))) d 7 (.int .i64 n)) (.inl rfl)
  have hcl := dset (dset hm.cells 6 (.bool (decide (0 ≤ n)))) 7 (.int .i64 n)
  have hsz : ((w1.setCell ⟨d, 6, none⟩ (.bool (decide (0 ≤ n)))).setCell ⟨d, 7, none⟩ (.int .i64 n)).heap.size = w1.heap.size := by simp
  generalize (w1.setCell ⟨d, 6, none⟩ (.bool (decide (0 ≤ n)))).setCell ⟨d, 7, none⟩ (.int .i64 n) = W at *
  have keep : ∀ x, x < w1.heap.size → x ≠ d → W.heap[x]? = w1.heap[x]? := fun x hx h1 => hg.block x hx (by simpa using h1)
  have hE : ∀ x, Ext S w w1 x → Ext S w W x := fun x hx => by
    rcases hx with hx | hx
    · exact .inl hx
    · exact .inr ⟨hx.1, by omega⟩
  have hdS : S d ∨ w.heap.size ≤ d := by
    rcases hS1 d (.inl rfl) with h | h
    · exact .inl h
    · exact .inr h.1
  refine ⟨⟨ms, md, vc, rc, Sf, ⟨hcl, hm.seen.of_block (fun b e => keep b (hm.seen.rlt b e) (hm.sepS b e).1), hm.dur.of_block (fun b e => keep b (hm.dur.rlt b e) (hm.sepD b e).1), hm.chg.of_block hg.size (fun b e => keep b (hm.chg.rlt b e) (hm.sepC b e)), fun G hG => (hm.files G hG).frame hg.size (fun x hx => keep x ((hm.files G hG).live x hx) (hm.sepF G hG x hx).1), hm.sepS, hm.sepD, hm.sepC, hm.sepF, hm.sepFF⟩, fun x hx => hE x (hS1 x hx), fun G x hG hx => hE x (hS2 G x hG hx), fun x hx => ?_⟩, hc.grown hg (fun g e => by simp at e; subst e; exact hdS)⟩
  rcases hx with hx | hx
  · have := hS3 x (.inl hx); omega
  · exact hx.2
end Go.Proofs.Ytgpmhflndcppeaa

/-! Any changing step, and what it keeps; the bytes of an image. -/
namespace Go.Proofs.Ytgpmhflndcppeaa
open Go.RowKit Go.Maps Plain
set_option linter.unusedVariables false
set_option linter.unusedSimpArgs false

theorem changeAll {W w : World} {d n : Nat} {k : Dk} (kd : Int) (nm to : ByteArray) (at' m : Int) (vb vp : Value) (l : List Nat) (hk1 : 1 ≤ kd) (hk7 : kd ≤ 7) (h : Dsk W d k w) (hs : nm.size ≤ maxLen) (ht : to.size ≤ maxLen) (hm : I64 m) (hb : BytesAt W vb l) (hl : l.length ≤ 140737488351232) (hk : k.Dok n) (hu : k.Uok) (hn : n ≤ 4398046511103) :
    Calls Try.prog 8 #[.pointer (some ⟨d, 0, none⟩), .agg #[.int .i64 kd, .string nm, .string to, .int .i64 at', .int .i64 m, vb, vp]] w (ChPost W d (chK k kd nm to m l) w) := by
  have : kd = 1 ∨ kd = 2 ∨ kd = 3 ∨ kd = 4 ∨ kd = 5 ∨ kd = 6 ∨ kd = 7 := by omega
  rcases this with rfl | rfl | rfl | rfl | rfl | rfl | rfl
  · exact changeCreate nm to at' m vb vp h hs hk hn
  · exact changeAppend nm to at' m vb vp l h hs (hb.later h.1) (fun w' hw' => hb.later hw') hl hk hu hn
  · exact changeTrunc nm to at' m vb vp h hs hm hk hu hn
  · exact changeSync nm to at' m vb vp h hs hk hn
  · exact changeSyncDir nm to at' m vb vp h hk hn
  · exact changeRename nm to at' m vb vp h hs ht hk hu hn
  · exact changeRemove nm to at' m vb vp h hs hk hu hn
theorem chK_dok {k : Dk} {n G : Nat} {kd m : Int} {nm to : ByteArray} {l : List Nat} (h : k.Dok n) (hu : k.Uok) (hs : nm.size ≤ maxLen) (ht : to.size ≤ maxLen) (hn : n ≤ 4398046511102) : (chK k kd nm to m l G).2.Dok (n + 1) := by
  unfold chK
  split
  · exact create_dok h hs hn
  · split
    · exact append_dok h hu hn
    · split
      · exact trunc_dok h hn
      · split
        · exact sync_dok h
        · split
          · exact syncDir_dok h
          · split
            · exact rename_dok h hs ht hn
            · exact remove_dok h hs hn
theorem chK_sum {k : Dk} {G : Nat} {kd m : Int} {nm to : ByteArray} {l : List Nat} (h : k.Sum) (hl : ∀ p ∈ k.L, k.live p.2) (hG : ¬ k.live G) : (chK k kd nm to m l G).2.Sum := by
  unfold chK
  split
  · exact create_sum h hl hG
  · split
    · exact append_sum h
    · split
      · exact trunc_sum h
      · split
        · exact sync_sum h
        · split
          · exact syncDir_sum h
          · split
            · exact rename_sum h
            · exact remove_sum h
/-- A disk whose power is on, and stays on. -/
structure Dk.On (k : Dk) : Prop where
  dead : k.dead = false
  fused : k.fused = false
theorem Dk.On.can {k : Dk} (h : k.On) : k.can = true := by unfold Dk.can spd; rw [h.fused]; rfl
theorem Dk.On.spent {k : Dk} (h : k.On) : k.spent.dead = false ∧ k.spent.fused = false := by
  refine ⟨?_, h.fused⟩
  show (spd k.ops k.fused k.left k.dead).2.2.2 = false
  unfold spd
  rw [h.fused, h.dead]; rfl
theorem Dk.On.chK {k : Dk} {G : Nat} {kd m : Int} {nm to : ByteArray} {l : List Nat} (h : k.On) : (chK k kd nm to m l G).2.On ∧ (Go.Proofs.Ytgpmhflndcppeaa.chK k kd nm to m l G).2.quota = k.quota := by
  have h1 := h.spent.1
  have h2 := h.spent.2
  unfold Go.Proofs.Ytgpmhflndcppeaa.chK createK appendK truncK syncK syncDirK renameK removeK
  repeat' split
  all_goals exact ⟨⟨by first | exact h.dead | exact h1, by first | exact h.fused | exact h2⟩, rfl⟩

/-- No other operation than an append is refused for want of room, or makes more of what is used. -/
theorem sizeK_nonneg (k : Dk) (s : ByteArray) : (0 : Int) ≤ (sizeK k s : Int) := Int.natCast_nonneg _
theorem fnd_ne33 (dead : Bool) (L : Dir) (s : ByteArray) : (fnd dead L s).2 ≠ 33 := by
  unfold fnd
  repeat' split
  all_goals simp
theorem rdy_ne33 (dead : Bool) (ns : List ByteArray) : rdy dead ns ≠ 33 := by
  unfold rdy
  repeat' split
  all_goals simp
theorem chK_less {k : Dk} {G : Nat} {kd m : Int} {nm to : ByteArray} {l : List Nat} (hne : kd ≠ 2) : (chK k kd nm to m l G).1 ≠ 33 ∧ (chK k kd nm to m l G).2.used ≤ k.used := by
  have h1 := fnd_ne33 k.dead k.L nm
  have h2 := rdy_ne33 k.dead [nm]
  have h3 := rdy_ne33 k.dead [nm, to]
  have h4 := sizeK_nonneg k nm
  have h5 := sizeK_nonneg k to
  unfold chK
  rw [if_neg hne]
  split
  · unfold createK
    repeat' split
    all_goals exact ⟨by first | exact h2 | simp, Int.le_refl _⟩
  · split
    · unfold truncK
      split
      · split
        · split
          · exact ⟨by simp, Int.le_refl _⟩
          · split
            · refine ⟨by simp, ?_⟩
              show k.used - _ ≤ k.used
              omega
            · exact ⟨by simp, Int.le_refl _⟩
        · exact ⟨by simp, Int.le_refl _⟩
      · exact ⟨h1, Int.le_refl _⟩
    · split
      · unfold syncK
        repeat' split
        all_goals exact ⟨by first | exact h1 | simp, Int.le_refl _⟩
      · split
        · unfold syncDirK
          repeat' split
          all_goals exact ⟨by simp, Int.le_refl _⟩
        · split
          · unfold renameK
            repeat' split
            all_goals first
              | exact ⟨by first | exact h1 | exact h3 | simp, Int.le_refl _⟩
              | (refine ⟨by simp, ?_⟩; show k.used - _ ≤ k.used; omega)
          · unfold removeK
            repeat' split
            all_goals first
              | exact ⟨by first | exact h1 | simp, Int.le_refl _⟩
              | (refine ⟨by simp, ?_⟩; show k.used - _ ≤ k.used; omega)
/-- What an append does. -/
theorem append_refused {k : Dk} {s : ByteArray} {b : List Nat} (h : (szK k s).2 ≠ 0) : appendK k s b = ((szK k s).2, k) := by
  unfold szK at h ⊢
  by_cases h0 : (fnd k.dead k.L s).2 = 0
  · rw [if_pos h0] at h; exact absurd rfl h
  · rw [if_neg h0] at h ⊢
    unfold appendK
    rw [if_neg h0]
theorem append_over {k : Dk} {s : ByteArray} {b : List Nat} (h : (szK k s).2 = 0) (hq : 0 < b.length ∧ k.quota - k.used < b.length) : appendK k s b = (33, k) := by
  have h0 : (fnd k.dead k.L s).2 = 0 := by
    unfold szK at h
    by_cases h0 : (fnd k.dead k.L s).2 = 0
    · exact h0
    · rw [if_neg h0] at h; exact absurd h h0
  unfold appendK
  rw [if_pos h0, if_pos hq]
theorem append_done {k : Dk} {s : ByteArray} {b : List Nat} (ho : k.On) (h : (szK k s).2 = 0) (hq : ¬ (0 < b.length ∧ k.quota - k.used < b.length)) :
    (appendK k s b).1 = 0 ∧ (szK (appendK k s b).2 s).2 = 0 ∧ (szK (appendK k s b).2 s).1 = (szK k s).1 + b.length ∧ (appendK k s b).2.used = k.used + b.length := by
  have h0 : (fnd k.dead k.L s).2 = 0 := by
    unfold szK at h
    by_cases h0 : (fnd k.dead k.L s).2 = 0
    · exact h0
    · rw [if_neg h0] at h; exact absurd h h0
  obtain ⟨G, hG, hf⟩ := fnd_ok h0
  have e : appendK k s b = (0, (k.spent.setFile G ((k.file G).add b)).uses (k.used + b.length)) := by
    unfold appendK
    rw [if_pos h0, if_neg hq, hG]
    simp only [ho.can, if_true]
  have hd : ((k.spent.setFile G ((k.file G).add b)).uses (k.used + b.length)).dead = k.dead := by
    show k.spent.dead = k.dead
    rw [ho.spent.1, ho.dead]
  have hL : ((k.spent.setFile G ((k.file G).add b)).uses (k.used + b.length)).L = k.L := rfl
  rw [e]
  unfold szK
  rw [if_pos h0, hd, hL, if_pos h0]
  refine ⟨rfl, rfl, ?_, rfl⟩
  unfold sizeK
  rw [hL, hG]
  show (upd k.file G ((k.file G).add b) G).seen.length = (k.file G).seen.length + b.length
  rw [upd_same]
  simp [Fl.add]

/-- All bytes of an image. -/
def imT (im : List (Nm × List Nat)) : Nat := (im.map fun p => p.2.length).sum
theorem imT_take (im : List (Nm × List Nat)) (j : Nat) (p : Nm × List Nat) (h : im[j]? = some p) : imT (im.take (j + 1)) = imT (im.take j) + p.2.length := by
  obtain ⟨hj, e⟩ := List.getElem?_eq_some_iff.mp h
  unfold imT
  rw [List.take_succ_eq_append_getElem hj, e]
  simp
theorem imT_le (im : List (Nm × List Nat)) (j : Nat) : imT (im.take j) ≤ imT im := by
  have : imT im = imT (im.take j) + imT (im.drop j) := by
    unfold imT
    rw [← List.sum_append, ← List.map_append, List.take_append_drop]
  omega
theorem imK_map (k : Dk) (ks : List Nm) : imgL k.L (fun (_ : Unit) G => (k.file G).seen) (fun _ _ => ()) () ks = ks.map fun n => (n, (k.file (fileOf k.L n)).seen) := by
  induction ks with
  | nil => rfl
  | cons x r ih => simp only [imgL, ih, List.map_cons]
theorem imK_total {k : Dk} (h : (k.L.map (·.1)).Nodup) : imT (imK k) = tT k.len k.L := by
  unfold imK imT
  rw [imK_map, List.map_map]
  have hp : (nms k.L).Perm (k.L.map (·.1)) := srt_perm _
  rw [(hp.map _).sum_nat, List.map_map]
  unfold tT
  congr 1
  apply List.map_congr_left
  intro p hp
  show (k.file (fileOf k.L p.1)).seen.length = (k.file p.2).seen.length
  unfold fileOf
  rw [look_of_mem h hp]
  rfl

end Go.Proofs.Ytgpmhflndcppeaa
