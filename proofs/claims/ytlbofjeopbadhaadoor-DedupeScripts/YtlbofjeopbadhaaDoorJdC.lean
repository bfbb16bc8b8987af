import Derived.Test.YtlbofjeopbadhaaDoorJdB
/-! dedupe: the document's Refuse, Note. -/
namespace Go.Proofs.YtlbofjeopbadhaaDoor
open Go.RowKit Go.Maps Plain
set_option linter.unusedVariables false
set_option linter.unusedSimpArgs false

set_option maxHeartbeats 4000000 in
theorem rrefuseOf (t : Nat) (v : Value) (L : List Pr) (r : Option Nat) (pid seq : Int) (w : World) (h : RTab w t v L r) (hp : I64 pid) (hs : I64 seq) :
    Calls Tryd.prog 38 #[.pointer (some ⟨t, 0, none⟩), .int .i64 pid, .int .i64 seq] w fun e w' => e = .returned (.int .i64 (rfs (jd L pid seq).1)) ∧ Below w.heap.size w w' := by
  have HJ : Hid (Calls Tryd.prog 37 #[.pointer (some ⟨t, 0, none⟩), .int .i64 pid, .int .i64 seq] w fun e w' => e = .returned (.tuple #[.int .i64 (jd L pid seq).1, .int .i64 (jd L pid seq).2]) ∧ Below w.heap.size w w') := rjudgeOf t v L r pid seq w h hp hs
  have hcs := jd_cases L pid seq
  generalize jd L pid seq = J at HJ hcs ⊢
  obtain ⟨a, b⟩ := J
  simp only at HJ hcs ⊢
  clear h hp hs
  rcases hcs with rfl | rfl | rfl | rfl | rfl | rfl | rfl
  all_goals
    go_enter Tryd.func38, Tryd.ntmps38
    go_wp2_with fail
    refine HJ.out.mono ?_
    rintro e w1 ⟨rfl, hb⟩
    have HB : Hid (Below w.heap.size w w1) := hb
    clear hb
    go_wp2
    go_ret
    exact ⟨by simp [rfs], HB.out⟩
set_option maxHeartbeats 4000000 in
theorem rnoteOf (t : Nat) (v : Value) (L : List Pr) (r : Option Nat) (pid seq off : Int) (w : World) (h : RTab w t v L r) (hp : I64 pid) (hs : I64 seq) (ho : I64 off) :
    Calls Tryd.prog 39 #[.pointer (some ⟨t, 0, none⟩), .int .i64 pid, .int .i64 seq, .int .i64 off] w fun e w' => e = .returned (.int .i64 (noteE L pid seq off)) ∧ ∃ v' r', RTab w' t v' (noteL L pid seq off) r' ∧ Chg (fun k => k = t) w w' ∧ (r' = r ∨ ∀ b, r' = some b → w.heap.size ≤ b) := by
  have HTN : Hid (TabL (noteL L pid seq off)) := h.tab.note pid seq off
  have HTB : Hid (∀ u, Below w.heap.size w u → RTab u t v L r) := fun u hu => h.later hu
  have HRE : Hid (Calls Tryd.prog 38 #[.pointer (some ⟨t, 0, none⟩), .int .i64 pid, .int .i64 seq] w fun e w' => e = .returned (.int .i64 (rfs (jd L pid seq).1)) ∧ Below w.heap.size w w') := rrefuseOf t v L r pid seq w h hp hs
  have HJU : Hid (∀ u, Below w.heap.size w u → Calls Tryd.prog 37 #[.pointer (some ⟨t, 0, none⟩), .int .i64 pid, .int .i64 seq] u fun e w' => e = .returned (.tuple #[.int .i64 (jd L pid seq).1, .int .i64 (jd L pid seq).2]) ∧ Below u.heap.size u w') := fun u hu => rjudgeOf t v L r pid seq u (h.later hu) hp hs
  have HLA : Hid (∀ u, Below w.heap.size w u → Calls Tryd.prog 48 #[v, .agg #[.int .i64 pid, .int .i64 seq, .int .i64 off]] u fun e w' => ∃ z q, e = .returned z ∧ OwnPr w' z (layP L ⟨pid, seq, off⟩) q ∧ (∀ g, q = some g → u.heap.size ≤ g) ∧ Below u.heap.size u w') := fun u hu => rlaidOf v L ⟨pid, seq, off⟩ u ((h.row.reads h.tab).later hu) h.tab.rise h.tab.len
  have HNE : Hid (noteE L pid seq off = if rfs (jd L pid seq).1 ≠ 0 then rfs (jd L pid seq).1 else if okOff off = false then 3 else 0) := rfl
  have HNL : Hid (noteL L pid seq off = if noteE L pid seq off = 0 ∧ (jd L pid seq).1 = 1 then layP L ⟨pid, seq, off⟩ else L) := rfl
  have HST : Hid (∀ u, Below w.heap.size w u → ∃ v' r', RTab u t v' L r' ∧ Chg (fun k => k = t) w u ∧ (r' = r ∨ ∀ b, r' = some b → w.heap.size ≤ b)) := fun u hu => ⟨v, r, h.later hu, Chg.ofBelow hu, .inl rfl⟩
  have hlt := h.lt
  obtain ⟨a0, cap0, rfl⟩ : ∃ a c, v = .slice a L.length c := by obtain ⟨x, y, e, _⟩ := h.row.shape; exact ⟨x, y, e⟩
  generalize noteE L pid seq off = NE at HNE HNL ⊢
  generalize noteL L pid seq off = NL at HNL HTN ⊢
  generalize jd L pid seq = J at HRE HJU HNE HNL
  obtain ⟨a, b⟩ := J
  simp only at HRE HJU HNE HNL
  generalize hR : rfs a = R at HRE HNE
  unfold I64 at ho
  clear h hp hs
  by_cases hR0 : R = 0
  · subst hR0
    by_cases hoo : 0 ≤ off ∧ off < 1099511627776
    · have hok : okOff off = true := (okOff_iff _).mpr (by omega)
      have HE : Hid (NE = 0 ∧ NL = if a = 1 then layP L ⟨pid, seq, off⟩ else L) := by
        have h1 : NE = 0 := by rw [HNE.out, if_neg (by simp), if_neg (by simp [hok])]
        exact ⟨h1, by rw [HNL.out, h1]; simp⟩
      obtain ⟨o1, o2⟩ := hoo
      clear HNE HNL hok
      by_cases ha : a = 1
      · subst ha
        have HE1 : Hid (NE = 0 ∧ NL = layP L ⟨pid, seq, off⟩) := ⟨HE.out.1, by rw [HE.out.2, if_pos rfl]⟩
        clear HE
        go_enter Tryd.func39, Tryd.ntmps39
        go_wp2_with fail
        refine HRE.out.mono ?_
        rintro e w1 ⟨rfl, hb⟩
        have HB : Hid (Below w.heap.size w w1) := hb
        clear hb
        go_wp2_with fail
        refine (HJU.out _ HB.out).mono ?_
        rintro e w2 ⟨rfl, hb⟩
        have HB2 : Hid (Below w.heap.size w w2) := below_step HB.out hb
        have hc2 := (HTB.out w2 HB2.out).cell
        clear hb
        go_wp2_with fail
        refine (HLA.out _ HB2.out).mono ?_
        rintro e w3 ⟨z, q, rfl, h1, h2, h3⟩
        have hb3 : Below w.heap.size w w3 := below_step HB2.out h3
        obtain ⟨c3, f3, -, -, -⟩ := HTB.out w3 hb3
        have gS := grow_setC w3 t 0 z
        have HK : Hid (∃ v' r', RTab (w3.setCell ⟨t, 0, none⟩ z) t v' (layP L ⟨pid, seq, off⟩) r' ∧ Chg (fun k => k = t) w (w3.setCell ⟨t, 0, none⟩ z) ∧ (r' = r ∨ ∀ b, r' = some b → w.heap.size ≤ b)) := by
          have hsz := HB2.out.size
          have hne : q ≠ some t := fun e => by have := h2 t e; omega
          refine ⟨z, q, ⟨World.cell?_setCell_same' _ _ _ (by rw [c3]; rfl), by rw [World.frozen?_setCell]; exact f3, h1.kept gS (.inr hne), by rw [← HE1.out.2]; exact HTN.out, hne⟩, (Chg.ofBelow hb3).grown gS (fun g e => by cases e; exact .inl rfl), ?_⟩
          exact .inr fun b e => by have := h2 b e; omega
        obtain ⟨x3, k3, rfl, -, -⟩ := h1.shape
        clear h1 h2 h3 hb3 gS
        go_wp2
        go_ret
        exact ⟨by rw [HE1.out.1]; rfl, by rw [HE1.out.2]; exact HK.out⟩
      · have ha' : (a == 1) = false := by simpa using ha
        go_enter Tryd.func39, Tryd.ntmps39
        go_wp2_with fail
        refine HRE.out.mono ?_
        rintro e w1 ⟨rfl, hb⟩
        have HB : Hid (Below w.heap.size w w1) := hb
        clear hb
        go_wp2_with fail
        refine (HJU.out _ HB.out).mono ?_
        rintro e w2 ⟨rfl, hb⟩
        have HB2 : Hid (Below w.heap.size w w2) := below_step HB.out hb
        clear hb
        go_wp2
        go_ret
        exact ⟨by rw [HE.out.1]; rfl, by rw [HE.out.2, if_neg ha]; exact HST.out _ HB2.out⟩
    · have hok : okOff off = false := by rw [Bool.eq_false_iff]; intro e; have := (okOff_iff _).mp e; omega
      have HE : Hid (NE = 3 ∧ NL = L) := by
        have h1 : NE = 3 := by rw [HNE.out, if_neg (by simp), if_pos hok]
        exact ⟨h1, by rw [HNL.out, if_neg (by rw [h1]; simp)]⟩
      clear HNE HNL hok
      by_cases hneg : off < 0
      · go_enter Tryd.func39, Tryd.ntmps39
        go_wp2_with fail
        refine HRE.out.mono ?_
        rintro e w1 ⟨rfl, hb⟩
        have HB : Hid (Below w.heap.size w w1) := hb
        clear hb
        go_wp2
        go_ret
        exact ⟨by rw [HE.out.1]; rfl, by rw [HE.out.2]; exact HST.out _ HB.out⟩
      · have hbig : 1099511627776 ≤ off := by omega
        go_enter Tryd.func39, Tryd.ntmps39
        go_wp2_with fail
        refine HRE.out.mono ?_
        rintro e w1 ⟨rfl, hb⟩
        have HB : Hid (Below w.heap.size w w1) := hb
        clear hb
        go_wp2
        go_ret
        exact ⟨by rw [HE.out.1]; rfl, by rw [HE.out.2]; exact HST.out _ HB.out⟩
  · have hR' : (R == 0) = false := by simpa using hR0
    have HE : Hid (NE = R ∧ NL = L) := by
      have h1 : NE = R := by rw [HNE.out, if_pos hR0]
      exact ⟨h1, by rw [HNL.out, if_neg (by rw [h1]; simp [hR0])]⟩
    clear HNE HNL hR
    go_enter Tryd.func39, Tryd.ntmps39
    go_wp2_with fail
    refine HRE.out.mono ?_
    rintro e w1 ⟨rfl, hb⟩
    have HB : Hid (Below w.heap.size w w1) := hb
    clear hb
    go_wp2
    go_ret
    exact ⟨by rw [HE.out.1]; rfl, by rw [HE.out.2]; exact HST.out _ HB.out⟩
end Go.Proofs.YtlbofjeopbadhaaDoor
