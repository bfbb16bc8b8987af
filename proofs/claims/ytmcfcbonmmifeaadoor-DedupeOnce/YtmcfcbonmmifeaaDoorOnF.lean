import Derived.Test.YtmcfcbonmmifeaaDoorOnE
import Derived.Test.YtmcfcbonmmifeaaDoorJn
/-! dedupe: the law's sends. -/
namespace Go.Proofs.YtmcfcbonmmifeaaDoor
open Go.RowKit Go.Maps Plain
set_option linter.unusedVariables false
set_option linter.unusedSimpArgs false

theorem GAt.trim {P : Nat → Prop} {w : World} {v : Value} {G : List Gv} (h : GAt P w v G) : GAt (fun b => P b ∧ b < w.heap.size) w v G := by
  obtain ⟨ts, r, bs, h⟩ := h
  refine ⟨ts, r, bs, h.row, h.len, h.offs, h.ap, fun j b hj e => ?_, fun b e => ⟨h.inr b e, h.row.blt b e⟩⟩
  obtain ⟨h1, h2⟩ := h.inp j b hj e
  obtain ⟨x, hx⟩ : ∃ x, G[j]? = some x := ⟨G[j], by simp [hj]⟩
  exact ⟨⟨h1, (h.offs j x hx).2.blt b e⟩, h2⟩
/-- What sends has done. -/
structure Sent (P : Nat → Prop) (w w' : World) (t : Nat) (m : Option Nat) (L : List Pr) (pid seq off : Int) (key : ByteArray) (v' : Value) (tk : Bool) (L' : List Pr) (G' : List Gv) (m' : Option Nat) (P' : Nat → Prop) : Prop where
  giv : GAt P' w' v' G'
  tab : TabAt w' t m' L'
  ap : ∀ b, foot t m' b → ¬ P' b
  inv : OInv L' G'
  lone : Lone G'
  chg : Chg (fun b => P b ∨ foot t m b) w w'
  newP : ∀ b, P' b → P b ∨ w.heap.size ≤ b
  newT : ∀ b, foot t m' b → foot t m b ∨ w.heap.size ≤ b
  ltP : ∀ b, P' b → b < w'.heap.size
  took : tk = true ∨ (pid = 0 ∧ seq = 0) → passE L (onceR pid seq off key) = 0 ∧ passL L (onceR pid seq off key) = L'
  not : tk = false → L' = L
theorem chk_once {pid seq off : Int} {key : ByteArray} (h : (pid = 0 ∧ seq = 0) ∨ okNum pid seq = true) (ho : okOff off = true) (hk : key.size = 1) : chk (onceR pid seq off key) = 0 := by
  have hof := (okOff_iff off).mp ho
  have h1 : inR off 0 1099511627776 = true := by unfold inR; simp; omega
  have h2 : inR 0 0 1125899906842624 = true := by unfold inR; simp
  have h3 : prod pid seq = true := by
    unfold prod
    rcases h with ⟨rfl, rfl⟩ | h
    · simp
    · have := (okNum_iff pid seq).mp h
      rw [if_neg (by omega)]
      unfold inR; simp; omega
  have h4 : (ByteArray.empty).size = 0 := rfl
  unfold chk onceR
  simp only [h1, h2, h3, hk, h4]
  simp
theorem noteE_of {L : List Pr} {pid seq off a b : Int} (h : jd L pid seq = (a, b)) (ho : okOff off = true) : noteE L pid seq off = rfs a := by
  unfold noteE
  rw [h]
  simp only
  split
  · rfl
  · rename_i h1
    rw [if_neg (by simp [ho])]
    exact (Decidable.not_not.mp h1).symm
theorem noteL_stay {L : List Pr} {pid seq off a b : Int} (h : jd L pid seq = (a, b)) (ha : a ≠ 1) : noteL L pid seq off = L := by
  unfold noteL
  rw [h]
  rw [if_neg (by simp [ha])]
theorem noteL_take {L : List Pr} {pid seq off b : Int} (h : jd L pid seq = (1, b)) (ho : okOff off = true) : noteL L pid seq off = layP L ⟨pid, seq, off⟩ := by
  unfold noteL
  rw [noteE_of h ho, h]
  exact if_pos ⟨by simp [rfs], rfl⟩
set_option maxHeartbeats 4000000 in
theorem sendsOf (P : Nat → Prop) (v : Value) (G : List Gv) (t : Nat) (m : Option Nat) (L : List Pr) (pid seq off : Int) (key : ByteArray) (w : World) (h : GAt P w v G) (hP : ∀ b, P b → b < w.heap.size) (hT : TabAt w t m L) (hap : ∀ b, foot t m b → ¬ P b) (hF : Refs w) (hI : OInv L G) (hn : Lone G) (hp : I64 pid) (hs : I64 seq) (ho : okOff off = true) (hk : key.size = 1) :
    Calls Tryd.prog 5 #[.pointer (some ⟨t, 0, none⟩), v, .agg #[.int .i64 pid, .int .i64 seq], .int .i64 off] w fun e w' => ∃ v' tk L' G' m' P', e = .returned (.tuple #[v', .bool tk, .bool true]) ∧ Sent P w w' t m L pid seq off key v' tk L' G' m' P' := by
  have hl : G.length ≤ 64 := by rw [← hI.len]; exact hI.tab.len
  have hTT : ∀ b, foot t m b → b < w.heap.size ∧ ¬ P b := fun b hb => ⟨by
    rcases hb with rfl | e
    · exact hT.lt
    · exact hT.mlt b e, hap b hb⟩
  have hofr := (okOff_iff off).mp ho
  have hoff : I64 off := by unfold I64; omega
  have HJ : ∀ a b, jd L pid seq = (a, b) → Hid (∀ u, Below w.heap.size w u → Calls Tryd.prog 12 #[.pointer (some ⟨t, 0, none⟩), .int .i64 pid, .int .i64 seq] u fun e w' => e = .returned (.tuple #[.int .i64 a, .int .i64 b]) ∧ Below u.heap.size u w') := fun a b e u hu => by
    have := judgeOf t m L pid seq u (hT.later hu) hp hs
    rwa [e] at this
  have HN : ∀ N L', noteE L pid seq off = N → noteL L pid seq off = L' → Hid (∀ u, Below w.heap.size w u → Calls Tryd.prog 14 #[.pointer (some ⟨t, 0, none⟩), .int .i64 pid, .int .i64 seq, .int .i64 off] u fun e w' => e = .returned (.int .i64 N) ∧ Chg (foot t m) u w' ∧ ∃ m', TabAt w' t m' L' ∧ (m' = m ∨ (m = none ∧ ∃ b, m' = some b ∧ u.heap.size ≤ b))) := fun N L' e1 e2 u hu => by
    refine (noteOf t m L pid seq off u (hT.later hu) (hF.later hu) hp hs hoff).mono ?_
    rintro e w' ⟨rfl, m', h1, h2, h3⟩
    exact ⟨by rw [e1], h2, m', by rw [← e2]; exact h1, h3⟩
  -- nothing is noted
  have stay : ∀ w', Below w.heap.size w w' → (pid = 0 ∧ seq = 0 → passE L (onceR pid seq off key) = 0 ∧ passL L (onceR pid seq off key) = L) → Sent P w w' t m L pid seq off key v false L G m P := fun w' hb hz =>
    ⟨h.later hb, hT.later hb, hap, hI, hn, Chg.ofBelow hb, fun b hb => .inl hb, fun b hb => .inl hb, fun b hb' => Nat.lt_of_lt_of_le (hP b hb') hb.size, fun hh => hz (hh.resolve_left (by simp)), fun _ => rfl⟩
  -- it is noted, and nothing turns
  have noted : ¬ (pid = 0 ∧ seq = 0) → ∀ w', (∃ u, Below w.heap.size w u ∧ Chg (foot t m) u w' ∧ ∃ m', TabAt w' t m' L ∧ (m' = m ∨ (m = none ∧ ∃ b, m' = some b ∧ u.heap.size ≤ b))) → ∃ m', Sent P w w' t m L pid seq off key v false L G m' P := by
    rintro hz w' ⟨u, hu, hc, m', h1, h2⟩
    have hcw : Chg (foot t m) w w' := (Chg.ofBelow hu).trans hc
    have hsz := hu.size
    refine ⟨m', h.chg hcw fun b hb hb2 => hap b hb2 hb, h1, fun b hb => ?_, hI, hn, hcw.mono fun k hk => .inr hk, fun b hb => .inl hb, fun b hb => ?_, fun b hb' => Nat.lt_of_lt_of_le (hP b hb') hcw.size, fun hh => absurd (hh.resolve_left (by simp)) hz, fun _ => rfl⟩
    · intro hpb
      have := hP b hpb
      rcases hb with rfl | e
      · exact hap b (.inl rfl) hpb
      · rcases h2 with rfl | ⟨_, b', e2, hb'⟩
        · exact hap b (.inr e) hpb
        · rw [e2] at e; cases e; omega
    · rcases hb with rfl | e
      · exact .inl (.inl rfl)
      · rcases h2 with rfl | ⟨_, b', e2, hb'⟩
        · exact .inl (.inr e)
        · rw [e2] at e; cases e; right; omega
  by_cases hz : pid = 0 ∧ seq = 0
  · obtain ⟨e0, e1⟩ := hz
    have hj : jd L pid seq = (0, 0) := by rw [e0, e1]; exact jd_free L
    have hpass : passE L (onceR pid seq off key) = 0 ∧ passL L (onceR pid seq off key) = L := by
      have hc := chk_once (.inl ⟨e0, e1⟩) ho hk
      unfold passE passL
      rw [hc]
      have : (onceR pid seq off key).p = 0 := e0
      simp [this]
    cases hi : lookG G pid with
    | some i =>
      obtain ⟨g, h1, h2, h3, h4, h5⟩ := hI.at hi
      have hr := hI.tab.right _ (lookP_some h5).1
      refine (sendsFreeS P (foot t m) v G t pid seq off w h hl hTT i g h1 (by unfold plc; rw [hi]) h3 (by have := hr.s2; simp [Gv.pr] at this; omega) (HJ 0 0 hj) e0 e1).mono ?_
      rintro e w' ⟨rfl, hb⟩
      exact ⟨v, false, L, G, m, P, rfl, stay w' hb fun _ => hpass⟩
    | none =>
      refine (sendsFree P (foot t m) v G t pid seq off w h hl hTT (by unfold plc; rw [hi]) (HJ 0 0 hj) e0 e1).mono ?_
      rintro e w' ⟨rfl, hb⟩
      exact ⟨v, false, L, G, m, P, rfl, stay w' hb fun _ => hpass⟩
  · cases hok : okNum pid seq with
    | false =>
      have hj : jd L pid seq = (-1, 0) := jd_bad hz hok
      have hz' : pid = 0 → (seq == 0) = false := fun e => by
        have : seq ≠ 0 := fun e2 => hz ⟨e, e2⟩
        simpa using this
      cases hi : lookG G pid with
      | some i =>
        obtain ⟨g, h1, h2, h3, h4, h5⟩ := hI.at hi
        have hr := hI.tab.right _ (lookP_some h5).1
        refine (sendsBadS P (foot t m) v G t pid seq off w h hl hTT i g h1 (by unfold plc; rw [hi]) h3 (by have := hr.s2; simp [Gv.pr] at this; omega) (HJ _ _ hj) hok hz').mono ?_
        rintro e w' ⟨rfl, hb⟩
        exact ⟨v, false, L, G, m, P, rfl, stay w' hb fun e => absurd e hz⟩
      | none =>
        refine (sendsBad P (foot t m) v G t pid seq off w h hl hTT (by unfold plc; rw [hi]) (HJ _ _ hj) hok hz').mono ?_
        rintro e w' ⟨rfl, hb⟩
        exact ⟨v, false, L, G, m, P, rfl, stay w' hb fun e => absurd e hz⟩
    | true =>
      have hkk := (okNum_iff pid seq).mp hok
      have hpz : (onceR pid seq off key).p ≠ 0 := by show pid ≠ 0; omega
      -- it is taken
      have took : (seq = (lastG G pid : Int) + 1) → ((lookG G pid).isSome = true ∨ G.length < 64) → ∀ w' v', (∃ P' u1 u2, GAt P' w' v' (takeG G pid off) ∧ (∀ b, P' b → P b ∨ u2.heap.size ≤ b) ∧ Below w.heap.size w u1 ∧ Chg (foot t m) u1 u2 ∧ (∃ m', TabAt u2 t m' (layP L ⟨pid, seq, off⟩) ∧ (m' = m ∨ (m = none ∧ ∃ b, m' = some b ∧ u1.heap.size ≤ b))) ∧ Chg P u2 w') → ∃ m' P', Sent P w w' t m L pid seq off key v' true (layP L ⟨pid, seq, off⟩) (takeG G pid off) m' P' := by
        rintro hsq hroom w' v' ⟨P', u1, u2, g1, g2, g3, g4, ⟨m', g5, g6⟩, g7⟩
        have s1 := g3.size
        have s2 := g4.size
        have s3 := g7.size
        have hft : ∀ b, foot t m' b → ¬ P b := fun b hb hpb => by
          have := hP b hpb
          rcases hb with rfl | e
          · exact hap b (.inl rfl) hpb
          · rcases g6 with rfl | ⟨_, b', e2, hb'⟩
            · exact hap b (.inr e) hpb
            · rw [e2] at e; cases e; omega
        have hfl : ∀ b, foot t m' b → b < u2.heap.size := fun b hb => by
          rcases hb with rfl | e
          · exact g5.lt
          · exact g5.mlt b e
        have htab : TabAt w' t m' (layP L ⟨pid, seq, off⟩) := g5.of_block (g7.block t g5.lt (hft t (.inl rfl))) fun b e => g7.block b (g5.mlt b e) (hft b (.inr e))
        refine ⟨m', _, g1.trim, htab, fun b hb hpb => ?_, hI.take hn ⟨hkk.1, hkk.2.1, hkk.2.2.1, hkk.2.2.2, hofr.1, hofr.2⟩ hsq hroom, hn.take pid off, ?_, fun b hb => ?_, fun b hb => ?_, fun b hb => hb.2, fun _ => ?_, fun e => by cases e⟩
        · rcases g2 b hpb.1 with h1 | h1
          · exact hft b hb h1
          · have := hfl b hb; omega
        · exact (((Chg.ofBelow g3).trans g4).mono fun k hk => .inr hk).trans (g7.mono fun k hk => .inl hk)
        · rcases g2 b hb.1 with h1 | h1
          · exact .inl h1
          · right; omega
        · rcases hb with rfl | e
          · exact .inl (.inl rfl)
          · rcases g6 with rfl | ⟨_, b', e2, hb'⟩
            · exact .inl (.inr e)
            · rw [e2] at e; cases e; right; omega
        · have hc := chk_once (.inr hok) ho hk
          cases hi : lookG G pid with
          | some i =>
            obtain ⟨g, h1, h2, h3, h4, h5⟩ := hI.at hi
            have e5 : lookP L (onceR pid seq off key).p = some g.pr := h5
            refine ⟨?_, ?_⟩
            · unfold passE
              rw [if_neg (by simp [hc]), if_neg hpz, if_neg (by rw [e5]; simp)]
            · unfold passL
              rw [if_neg hpz, e5]
              simp only
              rw [if_pos (by show g.pr.seq < seq; simp [Gv.pr]; omega)]
              rfl
          | none =>
            obtain ⟨h4, h5⟩ := hI.gone hi
            have e5 : lookP L (onceR pid seq off key).p = none := h5
            have hlt : G.length < 64 := hroom.resolve_left (by rw [hi]; simp)
            refine ⟨?_, ?_⟩
            · unfold passE
              rw [if_neg (by simp [hc]), if_neg hpz, if_neg (by rw [hI.len]; omega)]
            · unfold passL
              rw [if_neg hpz, e5]
              rfl
      cases hi : lookG G pid with
      | some i =>
        obtain ⟨g, h1, h2, h3, h4, h5⟩ := hI.at hi
        have hr := hI.tab.right _ (lookP_some h5).1
        have hnl : g.offs.length ≤ 1099511627775 := by have := hr.s2; simp [Gv.pr] at this; omega
        have hjs := jd_some hok h5
        have es : g.pr.seq = (g.offs.length : Int) := rfl
        have eo : g.pr.off = g.offs.getLastD 0 := rfl
        have hpl : plc G pid = (i : Int) := by unfold plc; rw [hi]
        rw [es, eo] at hjs
        by_cases q1 : seq = (g.offs.length : Int)
        · rw [if_pos q1] at hjs
          refine (sendsAgain P (foot t m) v G t pid seq off w h hl hTT i g h1 hpl h3 hnl _ (HJ _ _ hjs) _ (HN 0 L (by rw [noteE_of hjs ho]; rfl) (noteL_stay hjs (by decide))) hok q1 rfl).mono ?_
          rintro e w' ⟨rfl, hh⟩
          obtain ⟨m', hm⟩ := noted hz w' hh
          exact ⟨v, false, L, G, m', P, rfl, hm⟩
        · rw [if_neg q1] at hjs
          by_cases q2 : seq < (g.offs.length : Int)
          · rw [if_pos q2] at hjs
            refine (sendsStale P (foot t m) v G t pid seq off w h hl hTT i g h1 hpl h3 hnl (HJ _ _ hjs) _ (HN 91 L (by rw [noteE_of hjs ho]; rfl) (noteL_stay hjs (by decide))) hok q2).mono ?_
            rintro e w' ⟨rfl, hh⟩
            obtain ⟨m', hm⟩ := noted hz w' hh
            exact ⟨v, false, L, G, m', P, rfl, hm⟩
          · rw [if_neg q2] at hjs
            by_cases q3 : (g.offs.length : Int) + 1 < seq
            · rw [if_pos q3] at hjs
              refine (sendsGapS P (foot t m) v G t pid seq off w h hl hTT i g h1 hpl h3 hnl (HJ _ _ hjs) _ (HN 90 L (by rw [noteE_of hjs ho]; rfl) (noteL_stay hjs (by decide))) hok q3).mono ?_
              rintro e w' ⟨rfl, hh⟩
              obtain ⟨m', hm⟩ := noted hz w' hh
              exact ⟨v, false, L, G, m', P, rfl, hm⟩
            · rw [if_neg q3] at hjs
              have q4 : seq = (g.offs.length : Int) + 1 := by omega
              refine (sendsTakeS P (foot t m) v G t pid seq off w h hl hTT i g h1 hpl h3 hnl (HJ _ _ hjs) _ (HN 0 _ (by rw [noteE_of hjs ho]; rfl) (noteL_take hjs ho)) hok q4 hi).mono ?_
              rintro e w' ⟨v', rfl, hh⟩
              obtain ⟨m', P', hm⟩ := took (by rw [h4]; exact q4) (.inl (by rw [hi]; rfl)) w' v' hh
              exact ⟨v', true, _, _, m', P', rfl, hm⟩
      | none =>
        obtain ⟨h4, h5⟩ := hI.gone hi
        have hjs := jd_none hok h5
        have hpl : plc G pid = -1 := by unfold plc; rw [hi]
        by_cases q1 : 1 < seq
        · rw [if_pos q1] at hjs
          refine (sendsGap P (foot t m) v G t pid seq off w h hl hTT hpl (HJ _ _ hjs) _ (HN 90 L (by rw [noteE_of hjs ho]; rfl) (noteL_stay hjs (by decide))) hok q1).mono ?_
          rintro e w' ⟨rfl, hh⟩
          obtain ⟨m', hm⟩ := noted hz w' hh
          exact ⟨v, false, L, G, m', P, rfl, hm⟩
        · rw [if_neg q1] at hjs
          have q4 : seq = 1 := by omega
          by_cases q2 : 64 ≤ L.length
          · rw [if_pos q2] at hjs
            refine (sendsFull P (foot t m) v G t pid seq off w h hl hTT hpl (HJ _ _ hjs) hok q4 (by rw [← hI.len]; exact q2)).mono ?_
            rintro e w' ⟨rfl, hb⟩
            exact ⟨v, false, L, G, m, P, rfl, stay w' hb fun e => absurd e hz⟩
          · rw [if_neg q2] at hjs
            have q3 : G.length < 64 := by rw [← hI.len]; omega
            refine (sendsTake P (foot t m) v G t pid seq off w h hl hTT hpl (HJ _ _ hjs) _ (HN 0 _ (by rw [noteE_of hjs ho]; rfl) (noteL_take hjs ho)) hok q4 q3 hi).mono ?_
            rintro e w' ⟨v', rfl, hh⟩
            obtain ⟨m', P', hm⟩ := took (by rw [h4]; simpa using q4) (.inr q3) w' v' hh
            exact ⟨v', true, _, _, m', P', rfl, hm⟩
end Go.Proofs.YtmcfcbonmmifeaaDoor
