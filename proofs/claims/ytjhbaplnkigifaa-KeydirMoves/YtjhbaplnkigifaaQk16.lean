import Derived.Test.YtjhbaplnkigifaaQk15
import Derived.Test.YtjhbaplnkigifaaQk06
/-! keydir: Put and Note of whatever key, of both dirs. -/
namespace Go.Proofs.Ytjhbaplnkigifaa
open Go.RowKit Plain
set_option linter.unusedVariables false
set_option linter.unusedSimpArgs false

def putL (key : ByteArray) (en : En) (l : List Ke) : List Ke := if okKey key then insL key en l else l
def errK (key : ByteArray) : Int := if okKey key then 0 else 42
def noteR (key : ByteArray) (en : En) (l : List Ke) : Bool := okKey key && noteB key en l
def noteP (key : ByteArray) (en : En) (l : List Ke) : List Ke := if noteR key en l then insL key en l else l
theorem okKey_size {key : ByteArray} (h : okKey key = true) : 1 ≤ key.size ∧ key.size ≤ 64 := by simpa [okKey] using h
/-- Every key that stands there is one. -/
def AllK (l : List Ke) : Prop := ∀ k ∈ l, okKey k.key = true
theorem AllK.find {l : List Ke} (h : AllK l) {key : ByteArray} (hk : okKey key = false) : findL key l = none := by
  cases hf : findL key l with
  | none => rfl
  | some x =>
    obtain ⟨hm, e⟩ := findL_is hf
    have := h x hm
    rw [e, hk] at this
    cases this
theorem AllK.put {l : List Ke} (h : AllK l) (key : ByteArray) (en : En) : AllK (putL key en l) := fun k hm => by
  unfold putL at hm
  split at hm
  · rcases insL_mem hm with e | e
    · rw [e]; assumption
    · exact h k e
  · exact h k hm
theorem putL_len (key : ByteArray) (en : En) (l : List Ke) : (putL key en l).length ≤ l.length + 1 := by
  unfold putL
  split
  · exact insL_len key en l
  · omega
theorem XPut.grow {w u w' : World} {gx : Nat} {r r' : Option Nat} {l : List Ke} {v' : Value} (hb : Below w.heap.size w u) (h : XPut u w' gx r l v' r') (hg : gx < w.heap.size) : XPut w w' gx r l v' r' :=
  ⟨h.dir, (Chg.ofBelow hb).trans h.chg, h.new.imp id (fun hh g e => Nat.le_trans hb.size (hh g e)), (keeps_below hb).trans h.kp⟩
theorem XPut.later {w u w' : World} {gx : Nat} {r r' : Option Nat} {l : List Ke} {v' : Value} (h : XPut w u gx r l v' r') (hb : Below u.heap.size u w') : XPut w w' gx r l v' r' :=
  ⟨h.dir.later hb, h.chg.more hb, h.new, h.kp.trans (keeps_below hb)⟩
theorem xputAny (gx : Nat) (v : Value) (l : List Ke) (r : Option Nat) (key : ByteArray) (en : En) (w : World) (h : XDirAt w gx v l r) (ha : AllK l) (hk : key.size ≤ maxLen) (hlen : l.length < 2199023255000) :
    Calls Try.prog 12 #[.pointer (some ⟨gx, 0, none⟩), .string key, en.v] w fun e w' => e = .returned (.tuple #[(gotE (findL key l)).v, .bool (findL key l).isSome, .int .i64 (errK key)]) ∧ ∃ v' r', XPut w w' gx r (putL key en l) v' r' := by
  unfold errK putL
  by_cases hok : okKey key = true
  · rw [if_pos hok, if_pos hok]
    obtain ⟨h1, h2⟩ := okKey_size hok
    cases hf : findL key l with
    | none => exact xputNew gx v l r key en w h h1 h2 hf hlen
    | some x => exact (xputOld gx v l r key en x w h h1 h2 hf).mono fun e w' ⟨q1, q2⟩ => ⟨q1, _, _, q2⟩
  · rw [if_neg hok, if_neg hok]
    have hb : okKey key = false := by simpa using hok
    rw [ha.find hb]
    exact (xputBad gx key en w hb hk).mono fun e w' ⟨q1, q2⟩ => ⟨q1, _, _, XPut.same h q2⟩
theorem hresXnote : Try.f14.results = #[.tmp 6, .tmp 7] := by kernel_rfl
set_option maxHeartbeats 8000000 in
theorem xnoteOf (gx : Nat) (v : Value) (l : List Ke) (r : Option Nat) (key : ByteArray) (en : En) (w : World) (h : XDirAt w gx v l r) (ha : AllK l) (hk : key.size ≤ maxLen) (hlen : l.length < 2199023255000) :
    Calls Try.prog 14 #[.pointer (some ⟨gx, 0, none⟩), .string key, en.v] w fun e w' => e = .returned (.tuple #[.bool (noteR key en l), .int .i64 (errK key)]) ∧ ∃ v' r', XPut w w' gx r (noteP key en l) v' r' := by
  obtain ⟨a, cap, rfl, hc1, hc2⟩ := h.shape
  obtain ⟨w0, hw0⟩ : ∃ w0, w.alloc (.cells #[.int .i64 en.seg, .int .i64 en.pos, .int .i64 en.size, .int .i64 en.off, .int .i64 en.time, .bool en.tomb] 38) = w0 := ⟨_, rfl⟩
  have hs0 : w0.heap.size = w.heap.size + 1 := by rw [← hw0]; simp
  have hb0 : Below w.heap.size w w0 := by rw [← hw0]; exact (Below.refl _ _).alloc (Nat.le_refl _) _
  have hgl := h.lt
  have HEN : Hid (∀ u, Below w0.heap.size w0 u → EnAt u w.heap.size en) := fun u hu => by
    have h : EnAt w0 w.heap.size en := by rw [← hw0]; exact EnAt.new w en
    exact h.block (hu.block _ h.lt)
  have HX := h.later hb0
  have HAT : Hid (Calls Try.prog 42 #[.pointer (some ⟨gx, 0, none⟩), .string key] w0 fun e w' => e = .returned (.int .i64 (atL key l)) ∧ ∃ n, w' = w0.drewN n) := xatOf gx _ l r key w0 HX hk
  have HPU : Hid (∀ u, Below w0.heap.size w0 u → Calls Try.prog 12 #[.pointer (some ⟨gx, 0, none⟩), .string key, en.v] u fun e w' => e = .returned (.tuple #[(gotE (findL key l)).v, .bool (findL key l).isSome, .int .i64 (errK key)]) ∧ ∃ v' r', XPut w w' gx r (putL key en l) v' r') := fun u hu => (xputAny gx _ l r key en _ (HX.later hu) ha hk hlen).mono fun e w' ⟨q1, v', r', q2⟩ => ⟨q1, v', r', q2.grow (hb0.trans (hu.mono hb0.size)) hgl⟩
  have HSM : Hid (∀ u, Below w0.heap.size w0 u → XPut w u gx r l (.slice a l.length cap) r) := fun u hu => XPut.same h (hb0.trans (hu.mono hb0.size))
  have HXA : Hid (∀ u, Below w0.heap.size w0 u → XDirAt u gx (.slice a l.length cap) l r) := fun u hu => HX.later hu
  have c0 := HX.cell
  have hll := HX.len
  have HNP : Hid (noteR key en l = true → noteP key en l = putL key en l) := fun hh => by
    unfold noteP putL
    rw [if_pos hh, if_pos (by unfold noteR at hh; simp at hh; exact hh.1)]
  have HNQ : Hid (noteR key en l = false → noteP key en l = l) := fun hh => by
    unfold noteP
    rw [hh]; rfl
  have HNK : Hid (noteR key en l = true → errK key = 0) := fun hh => by
    unfold errK
    rw [if_pos (by unfold noteR at hh; simp at hh; exact hh.1)]
  by_cases hold : ∃ x, findL key l = some x ∧ en.off ≤ x.e.off
  · obtain ⟨x, hf, hle⟩ := hold
    have hnr : noteR key en l = false := by simp [noteR, noteB, hf, gotE, hle]
    have hek : errK key = 0 := by
      obtain ⟨hm, e⟩ := findL_is hf
      unfold errK
      rw [← e, if_pos (ha x hm)]
    have HFF : Hid (noteR key en l = false ∧ errK key = 0 ∧ noteP key en l = l) := ⟨hnr, hek, HNQ.out hnr⟩
    obtain ⟨e1, h1, h2⟩ := at_found h.srt hf
    rw [e1] at HAT
    obtain ⟨g, rfl, rfl, hc⟩ := HX.at h1
    rw [h2] at hc
    obtain ⟨xkey, xe⟩ := x
    obtain ⟨x1, x2, x3, x4, x5, x6⟩ := xe
    obtain ⟨d0, d1, d2, d3, d4, d5, d6⟩ := hc
    simp only [Ke.r] at d0 d1 d2 d3 d4 d5 d6
    simp only at hle
    have hki : (rankL key l : Int) < (l.length : Int) := by omega
    have HCX : Hid (∀ u, Below w0.heap.size w0 u → Kr.CellsAt u g (rankL key l * 7) (Ke.r ⟨xkey, ⟨x1, x2, x3, x4, x5, x6⟩⟩)) := fun u hu => by
      obtain ⟨g', e, _, hc⟩ := (HXA.out u hu).at h1
      cases e
      rw [h2] at hc
      exact hc
    clear h HX h2 hf e1 ha hnr hek HNP HNQ HNK HPU hb0 d0 d1 d2 d3 d4 d5 d6
    generalize rankL key l = k at *
    go_enter Try.func14, Try.ntmps14
    go_wp2_with fail
    refine HAT.out.mono ?_
    rintro e w' ⟨rfl, nq0, rfl⟩
    have HB1 : Hid (Below w0.heap.size w0 (w0.drewN nq0)) := below_drewN (Below.refl _ _) nq0
    generalize w0.drewN nq0 = w1 at HB1 ⊢
    obtain ⟨d0, d1, d2, d3, d4, d5, d6⟩ := HCX.out w1 HB1.out
    simp only [Ke.r] at d0 d1 d2 d3 d4 d5 d6
    obtain ⟨p0, p1, p2, p3, p4, p5⟩ := HEN.out w1 HB1.out
    have c1 := (HXA.out w1 HB1.out).cell
    go_wp2
    go_quiet (fail)
    go_wp2
    refine bodyPost_ret (v := .tuple #[.bool false, .int .i64 0]) ?_ rfl ⟨by rw [HFF.out.1, HFF.out.2.1], _, _, by rw [HFF.out.2.2]; exact HSM.out _ (below_drewN HB1.out nq)⟩
    simp only [results, hresXnote]
    go_simp
  · have hnr : noteR key en l = okKey key := by
      unfold noteR noteB
      cases hf : findL key l with
      | none => simp
      | some x =>
        have : ¬ en.off ≤ x.e.off := fun hh => hold ⟨x, hf, hh⟩
        simp [gotE, this]
    have HFF : Hid (noteR key en l = okKey key ∧ noteP key en l = putL key en l) := ⟨hnr, by
      unfold noteP putL
      rw [hnr]⟩
    have HER : Hid ((errK key = 0 ∧ okKey key = true) ∨ (errK key = 42 ∧ okKey key = false)) := by
      unfold Hid errK
      cases okKey key
      · exact .inr ⟨rfl, rfl⟩
      · exact .inl ⟨rfl, rfl⟩
    obtain ⟨old, hold'⟩ : ∃ old, gotE (findL key l) = old := ⟨_, rfl⟩
    obtain ⟨had, hhad⟩ : ∃ had, (findL key l).isSome = had := ⟨_, rfl⟩
    rw [hold', hhad] at HPU
    clear hold' hhad
    cases hf : findL key l with
    | none =>
      rw [at_none hf] at HAT
      clear h HX hf ha hnr HNP HNQ HNK hb0 hold
      go_enter Try.func14, Try.ntmps14
      go_wp2_with fail
      refine HAT.out.mono ?_
      rintro e w' ⟨rfl, nq0, rfl⟩
      have HB1 : Hid (Below w0.heap.size w0 (w0.drewN nq0)) := below_drewN (Below.refl _ _) nq0
      generalize w0.drewN nq0 = w1 at HB1 ⊢
      obtain ⟨p0, p1, p2, p3, p4, p5⟩ := HEN.out w1 HB1.out
      have c1 := (HXA.out w1 HB1.out).cell
      go_wp2
      go_quiet (fail)
      obtain ⟨p0, p1, p2, p3, p4, p5⟩ := HEN.out _ (below_drewN HB1.out nq)
      have HPQ : Hid (Calls Try.prog 12 #[.pointer (some ⟨gx, 0, none⟩), .string key, en.v] (w1.drewN nq) fun e w' => e = .returned (.tuple #[old.v, .bool had, .int .i64 (errK key)]) ∧ ∃ v' r', XPut w w' gx r (putL key en l) v' r') := HPU.out _ (below_drewN HB1.out nq)
      go_wp2_with fail
      refine HPQ.out.mono ?_
      rintro e w3 ⟨rfl, v', r', hq⟩
      have HQ : Hid (∀ u, Below w3.heap.size w3 u → XPut w u gx r (noteP key en l) v' r') := fun u hu => by rw [HFF.out.2]; exact hq.later hu
      clear hq HPQ HPU
      rcases HER.out with ⟨he, ho⟩ | ⟨he, ho⟩
      · rw [he]
        go_wp2
        refine bodyPost_ret (v := .tuple #[.bool true, .int .i64 0]) ?_ rfl ⟨by rw [HFF.out.1, ho, he], _, _, HQ.out _ (by first | exact Below.refl _ _ | exact (Below.refl _ _).alloc (Nat.le_refl _) _)⟩
        simp only [results, hresXnote]
        go_simp
      · rw [he]
        go_wp2
        refine bodyPost_ret (v := .tuple #[.bool false, .int .i64 42]) ?_ rfl ⟨by rw [HFF.out.1, ho, he], _, _, HQ.out _ (by first | exact Below.refl _ _ | exact (Below.refl _ _).alloc (Nat.le_refl _) _)⟩
        simp only [results, hresXnote]
        go_simp
    | some x =>
      have hlt : ¬ en.off ≤ x.e.off := fun hh => hold ⟨x, hf, hh⟩
      obtain ⟨e1, h1, h2⟩ := at_found h.srt hf
      rw [e1] at HAT
      obtain ⟨g, rfl, rfl, -⟩ := HX.at h1
      obtain ⟨xkey, xe⟩ := x
      obtain ⟨x1, x2, x3, x4, x5, x6⟩ := xe
      simp only at hlt
      have hki : (rankL key l : Int) < (l.length : Int) := by omega
      have HCX : Hid (∀ u, Below w0.heap.size w0 u → Kr.CellsAt u g (rankL key l * 7) (Ke.r ⟨xkey, ⟨x1, x2, x3, x4, x5, x6⟩⟩)) := fun u hu => by
        obtain ⟨g', e, _, hc⟩ := (HXA.out u hu).at h1
        cases e
        rw [h2] at hc
        exact hc
      clear h HX hf ha hnr HNP HNQ HNK hb0 hold h2 e1
      generalize rankL key l = k at *
      go_enter Try.func14, Try.ntmps14
      go_wp2_with fail
      refine HAT.out.mono ?_
      rintro e w' ⟨rfl, nq0, rfl⟩
      have HB1 : Hid (Below w0.heap.size w0 (w0.drewN nq0)) := below_drewN (Below.refl _ _) nq0
      generalize w0.drewN nq0 = w1 at HB1 ⊢
      obtain ⟨p0, p1, p2, p3, p4, p5⟩ := HEN.out w1 HB1.out
      obtain ⟨d0, d1, d2, d3, d4, d5, d6⟩ := HCX.out w1 HB1.out
      simp only [Ke.r] at d0 d1 d2 d3 d4 d5 d6
      have c1 := (HXA.out w1 HB1.out).cell
      go_wp2
      go_quiet (fail)
      obtain ⟨p0, p1, p2, p3, p4, p5⟩ := HEN.out _ (below_drewN HB1.out nq)
      have HPQ : Hid (Calls Try.prog 12 #[.pointer (some ⟨gx, 0, none⟩), .string key, en.v] (w1.drewN nq) fun e w' => e = .returned (.tuple #[old.v, .bool had, .int .i64 (errK key)]) ∧ ∃ v' r', XPut w w' gx (some g) (putL key en l) v' r') := HPU.out _ (below_drewN HB1.out nq)
      go_wp2_with fail
      refine HPQ.out.mono ?_
      rintro e w3 ⟨rfl, v', r', hq⟩
      have HQ : Hid (∀ u, Below w3.heap.size w3 u → XPut w u gx (some g) (noteP key en l) v' r') := fun u hu => by rw [HFF.out.2]; exact hq.later hu
      clear hq HPQ HPU
      rcases HER.out with ⟨he, ho⟩ | ⟨he, ho⟩
      · rw [he]
        go_wp2
        refine bodyPost_ret (v := .tuple #[.bool true, .int .i64 0]) ?_ rfl ⟨by rw [HFF.out.1, ho, he], _, _, HQ.out _ (by first | exact Below.refl _ _ | exact (Below.refl _ _).alloc (Nat.le_refl _) _)⟩
        simp only [results, hresXnote]
        go_simp
      · rw [he]
        go_wp2
        refine bodyPost_ret (v := .tuple #[.bool false, .int .i64 42]) ?_ rfl ⟨by rw [HFF.out.1, ho, he], _, _, HQ.out _ (by first | exact Below.refl _ _ | exact (Below.refl _ _).alloc (Nat.le_refl _) _)⟩
        simp only [results, hresXnote]
        go_simp
end Go.Proofs.Ytjhbaplnkigifaa

/-! keydir: the document's Range, List. -/
namespace Go.Proofs.Ytjhbaplnkigifaa
open Go.RowKit Plain
set_option linter.unusedVariables false
set_option linter.unusedSimpArgs false

theorem quiet_k {P : Program} {f : FuncId} {args : Array Value} {w : World} {x : Nat} {v : Value}
    (h : Calls P f args (w.drewN x) fun e w' => e = .returned v ∧ ∃ m, w' = (w.drewN x).drewN m) : Calls P f args (w.drewN x) fun e w'' => e = .returned v ∧ ∃ n, w'' = w.drewN n :=
  h.mono fun _ _ ⟨he, m, hm⟩ => ⟨he, x + m, by rw [hm, World.drewN_drewN]⟩
theorem rng_snoc (lo hi : ByteArray) (l : List Ke) (k : Nat) (h : k < l.length) : rngL lo hi (l.take (k + 1)) = if rngB lo hi (l.getD k Ke.zero) then rngL lo hi (l.take k) ++ [l.getD k Ke.zero] else rngL lo hi (l.take k) := by
  rw [takeK h, rngL_app]
  unfold rngL
  by_cases e : rngB lo hi (l.getD k Ke.zero) = true
  · rw [if_pos e, List.filter_cons, if_pos e, List.filter_nil]
  · rw [if_neg e, List.filter_cons, if_neg e, List.filter_nil, List.append_nil]
theorem rng_full {lo hi : ByteArray} {l : List Ke} {n k : Nat} (h : (rngL lo hi (l.take k)).length = n) : (rngL lo hi l).take n = rngL lo hi (l.take k) := by
  conv => lhs; rw [← List.take_append_drop k l]
  rw [rngL_app, ← h, List.take_left]
theorem rng_len (lo hi : ByteArray) (l : List Ke) (k : Nat) : (rngL lo hi (l.take k)).length ≤ k := Nat.le_trans (List.length_filter_le ..) (by simp; omega)
theorem kdB (lo hi : ByteArray) (x : Ke) : rngB lo hi x = (!decide (kd x.key lo < 0) && (decide (hi.size = 0) || decide (kd x.key hi < 0))) := by
  unfold rngB
  congr 1
  · by_cases h : kd x.key lo < 0
    · have := (kd_neg _ _).1 h; simp [h, this]
    · have h2 : ¬ kc x.key lo = -1 := fun e => h ((kd_neg _ _).2 e)
      simp [h, h2]
  · congr 1
    by_cases h : kd x.key hi < 0
    · have := (kd_neg _ _).1 h; simp [h, this]
    · have h2 : ¬ kc x.key hi = -1 := fun e => h ((kd_neg _ _).2 e)
      simp [h, h2]
set_option maxHeartbeats 16000000 in
set_option maxRecDepth 100000 in
theorem xrangeOf (gx : Nat) (v : Value) (l : List Ke) (r : Option Nat) (lo hi : ByteArray) (lim : Int) (w : World) (h : XDirAt w gx v l r) (hlo : lo.size ≤ maxLen) (hhi : hi.size ≤ maxLen) :
    Calls Try.prog 29 #[.pointer (some ⟨gx, 0, none⟩), .string lo, .string hi, .int .i64 lim] w fun e w' => ∃ v' r', e = .returned v' ∧ KrNew w w' v' (rowK ((rngL lo hi l).take lim.toNat)) r' := by
  obtain ⟨a, cap, rfl, hc1, hc2⟩ := h.shape
  have HXA : Hid (∀ u, Below w.heap.size w u → XDirAt u gx (.slice a l.length cap) l r) := fun u hu => h.later hu
  have hll := h.len
  have HSN : Hid (∀ k, k < l.length → rngL lo hi (l.take (k + 1)) = if rngB lo hi (l.getD k Ke.zero) then rngL lo hi (l.take k) ++ [l.getD k Ke.zero] else rngL lo hi (l.take k)) := fun k hk => rng_snoc lo hi l k hk
  have HLN : Hid (∀ k, (rngL lo hi (l.take k)).length ≤ k) := fun k => rng_len lo hi l k
  have HFU : Hid (∀ k, (rngL lo hi (l.take k)).length = lim.toNat → (rngL lo hi l).take lim.toNat = rngL lo hi (l.take k)) := fun k hk => rng_full hk
  have HFL : Hid ((rngL lo hi (l.take l.length)).length ≤ lim.toNat → (rngL lo hi l).take lim.toNat = rngL lo hi (l.take l.length)) := fun hh => by
    rw [List.take_length] at hh ⊢
    exact List.take_of_length_le hh
  have HCM : Hid (∀ (k : Nat) (b : ByteArray) u, k < l.length → b.size ≤ maxLen → Calls Try.prog 48 #[.string (l.getD k Ke.zero).key, .string b] u fun e w' => e = .returned (.int .i64 (kd (l.getD k Ke.zero).key b)) ∧ ∃ n, w' = u.drewN n) := fun k b u hk hb => xcompareOf _ _ u (by have := h.short _ (ke_getD_mem hk); unfold maxLen; omega) hb
  have HZ : Hid (rngL lo hi (l.take 0) = []) := rfl
  clear h
  go_enter Try.func29, Try.ntmps29
  go_wp2
  go_loopw [9, 10] (fun s7 i wr => ∃ (k : Nat) (M : List Ke) (x : Option Addr) (c : Nat) (rr : Option Nat), k ≤ l.length ∧ i = .int .i64 k ∧ s7 = .slice x M.length c ∧ M.length ≤ k ∧ Hid (M = rngL lo hi (l.take k)) ∧ M.length ≤ lim.toNat ∧ Hid (KrNew w wr (.slice x M.length c) (rowK M) rr))
    (fun _ i _ => l.length - (intOf i).toNat)
  case atStart => exact ⟨0, [], none, 0, none, Nat.zero_le _, rfl, rfl, by simp, HZ.out.symm, by simp, KrNew.nil w⟩
  case round =>
    obtain ⟨k, M, x, c, rr, hk, rfl, rfl, hMk, HM, hMl, HA⟩ := hrel
    have c0 := (HXA.out wr HA.out.below).cell
    by_cases hlt : k < l.length
    · have hki : (k : Int) < (l.length : Int) := by omega
      by_cases hlim : (M.length : Int) < lim
      · obtain ⟨g, rfl, rfl, hc⟩ := (HXA.out wr HA.out.below).at hlt
        have HS1 := HSN.out k hlt
        rw [← HM.out, kdB] at HS1
        have HS2 : Hid (rngL lo hi (l.take (k + 1)) = if (!decide (kd (l.getD k Ke.zero).key lo < 0) && (decide (hi.size = 0) || decide (kd (l.getD k Ke.zero).key hi < 0))) then M ++ [l.getD k Ke.zero] else M) := HS1
        clear HS1
        have HC1 : Hid (∀ u, Calls Try.prog 48 #[.string (l.getD k Ke.zero).key, .string lo] u fun e w' => e = .returned (.int .i64 (kd (l.getD k Ke.zero).key lo)) ∧ ∃ n, w' = u.drewN n) := fun u => HCM.out k lo u hlt hlo
        have HC2 : Hid (∀ u, Calls Try.prog 48 #[.string (l.getD k Ke.zero).key, .string hi] u fun e w' => e = .returned (.int .i64 (kd (l.getD k Ke.zero).key hi)) ∧ ∃ n, w' = u.drewN n) := fun u => HCM.out k hi u hlt hhi
        have HCX : Hid (∀ u, Below w.heap.size w u → Kr.CellsAt u g (k * 7) (l.getD k Ke.zero).r) := fun u hu => by
          obtain ⟨g', e, _, hc⟩ := (HXA.out u hu).at hlt
          cases e
          exact hc
        generalize l.getD k Ke.zero = xx at *
        obtain ⟨yk, ye⟩ := xx
        obtain ⟨y1, y2, y3, y4, y5, y6⟩ := ye
        simp only at HC1 HC2 HS2
        generalize kd yk lo = A at *
        generalize kd yk hi = B at *
        obtain ⟨d0, d1, d2, d3, d4, d5, d6⟩ := hc
        simp only [Ke.r] at d0 d1 d2 d3 d4 d5 d6
        by_cases hA : A < 0
        · have HN : Hid (M = rngL lo hi (l.take (k + 1))) := by unfold Hid; rw [HS2.out, if_neg (by simp [hA])]
          go_wp2_with fail
          refine (HC1.out _).mono ?_
          rintro e w' ⟨rfl, n1, rfl⟩
          have HQ : Hid (KrNew w (wr.drewN n1) (.slice x M.length c) (rowK M) rr) := HA.out.later (below_drewN (Below.refl _ _) n1)
          go_wp2
          go_roundw
          case rel => exact ⟨k + 1, M, x, c, rr, by omega, by go_num, rfl, by omega, HN.out, hMl, by first | exact HQ.out | (rw [← World.drewN_drewN]; exact HQ.out)⟩
          case measure => simp [intOf]; omega
        · by_cases hH : hi.size = 0
          · have hhe : hi = ⟨#[]⟩ := by
              have h2 : hi.data = #[] := Array.eq_empty_of_size_eq_zero hH
              cases hi
              simpa using h2
            have hti : hi.toList.isEmpty = true := by rw [hhe, ByteArray.toList_eq]; rfl
            have hte : (hi.toList == (⟨#[]⟩ : ByteArray).toList) = true := by rw [hhe]; simp
            clear hhe
            have HN : Hid (M ++ [⟨yk, ⟨y1, y2, y3, y4, y5, y6⟩⟩] = rngL lo hi (l.take (k + 1))) := by unfold Hid; rw [HS2.out, if_pos (by simp [hA, hH])]
            go_wp2_with fail
            refine (HC1.out _).mono ?_
            rintro e w' ⟨rfl, n1, rfl⟩
            have HQ : Hid (KrNew w (wr.drewN n1) (.slice x M.length c) (rowK M) rr) := HA.out.later (below_drewN (Below.refl _ _) n1)
            generalize (wr.drewN n1) = wq at HQ ⊢
            have c0 := (HXA.out wq HQ.out.below).cell
            obtain ⟨d0, d1, d2, d3, d4, d5, d6⟩ := HCX.out wq HQ.out.below
            simp only [Ke.r] at d0 d1 d2 d3 d4 d5 d6
            go_wp2_with (at_builtin; refine wpList_append_ka _ rfl _ _ rfl _ _ (rowK M) [Ke.r ⟨yk, ⟨y1, y2, y3, y4, y5, y6⟩⟩] rr rfl rfl ?hOwna ?hSrca ?hLena ?_)
            case hOwna => exact HQ.out.row.later ((Below.refl _ _).alloc (Nat.le_refl _) _)
            case hSrca => exact src_kr _ ⟨yk, ⟨y1, y2, y3, y4, y5, y6⟩⟩
            case hLena => simp; omega
            intro v8 w8 r8 ho8 hg8 hr8
            have HA8 : Hid (KrNew w w8 v8 (rowK (M ++ [⟨yk, ⟨y1, y2, y3, y4, y5, y6⟩⟩])) r8) := by
              have := (HQ.out.later ((Below.refl _ _).alloc (Nat.le_refl _) _)).app ho8 hg8 (by simpa using hr8)
              unfold Hid
              simpa [rowK] using this
            obtain ⟨x8, c8, rfl, -, -⟩ := HA8.out.row.shape
            rw [List.length_map] at HA8 ⊢
            have hlen8 : (M ++ [(⟨yk, ⟨y1, y2, y3, y4, y5, y6⟩⟩ : Ke)]).length = M.length + 1 := by simp
            clear ho8 hg8 hr8
            generalize hM8 : M ++ [(⟨yk, ⟨y1, y2, y3, y4, y5, y6⟩⟩ : Ke)] = M8 at HA8 HN hlen8 ⊢
            clear hM8
            go_wp2
            go_roundw
            case rel => exact ⟨k + 1, M8, x8, c8, r8, by omega, by go_num, rfl, by omega, HN.out, by omega, HA8.out⟩
            case measure => simp [intOf]; omega
          · have hti : hi.toList.isEmpty = false := by
              rw [ByteArray.toList_eq]
              have h3 : hi.data.toList ≠ [] := fun h => hH (by show hi.data.size = 0; rw [← Array.length_toList, h]; rfl)
              cases h4 : hi.data.toList with
              | nil => exact absurd h4 h3
              | cons _ _ => rfl
            have hte : (hi.toList == (⟨#[]⟩ : ByteArray).toList) = false := by
              rw [ByteArray.toList_eq, ByteArray.toList_eq]
              have h3 : hi.data.toList ≠ [] := fun h => hH (by show hi.data.size = 0; rw [← Array.length_toList, h]; rfl)
              cases h4 : hi.data.toList with
              | nil => exact absurd h4 h3
              | cons _ _ => rfl
            by_cases hB : B < 0
            · have HN : Hid (M ++ [⟨yk, ⟨y1, y2, y3, y4, y5, y6⟩⟩] = rngL lo hi (l.take (k + 1))) := by unfold Hid; rw [HS2.out, if_pos (by simp [hA, hB])]
              go_wp2_with fail
              refine (HC1.out _).mono ?_
              rintro e w' ⟨rfl, n1, rfl⟩
              go_wp2_with fail
              refine (HC2.out _).mono ?_
              rintro e w' ⟨rfl, n2, rfl⟩
              have HQ : Hid (KrNew w ((wr.drewN n1).drewN n2) (.slice x M.length c) (rowK M) rr) := HA.out.later (below_drewN (below_drewN (Below.refl _ _) n1) n2)
              generalize ((wr.drewN n1).drewN n2) = wq at HQ ⊢
              have c0 := (HXA.out wq HQ.out.below).cell
              obtain ⟨d0, d1, d2, d3, d4, d5, d6⟩ := HCX.out wq HQ.out.below
              simp only [Ke.r] at d0 d1 d2 d3 d4 d5 d6
              go_wp2_with (at_builtin; refine wpList_append_ka _ rfl _ _ rfl _ _ (rowK M) [Ke.r ⟨yk, ⟨y1, y2, y3, y4, y5, y6⟩⟩] rr rfl rfl ?hOwna ?hSrca ?hLena ?_)
              case hOwna => exact HQ.out.row.later ((Below.refl _ _).alloc (Nat.le_refl _) _)
              case hSrca => exact src_kr _ ⟨yk, ⟨y1, y2, y3, y4, y5, y6⟩⟩
              case hLena => simp; omega
              intro v8 w8 r8 ho8 hg8 hr8
              have HA8 : Hid (KrNew w w8 v8 (rowK (M ++ [⟨yk, ⟨y1, y2, y3, y4, y5, y6⟩⟩])) r8) := by
                have := (HQ.out.later ((Below.refl _ _).alloc (Nat.le_refl _) _)).app ho8 hg8 (by simpa using hr8)
                unfold Hid
                simpa [rowK] using this
              obtain ⟨x8, c8, rfl, -, -⟩ := HA8.out.row.shape
              rw [List.length_map] at HA8 ⊢
              have hlen8 : (M ++ [(⟨yk, ⟨y1, y2, y3, y4, y5, y6⟩⟩ : Ke)]).length = M.length + 1 := by simp
              clear ho8 hg8 hr8
              generalize hM8 : M ++ [(⟨yk, ⟨y1, y2, y3, y4, y5, y6⟩⟩ : Ke)] = M8 at HA8 HN hlen8 ⊢
              clear hM8
              go_wp2
              go_roundw
              case rel => exact ⟨k + 1, M8, x8, c8, r8, by omega, by go_num, rfl, by omega, HN.out, by omega, HA8.out⟩
              case measure => simp [intOf]; omega
            · have HN : Hid (M = rngL lo hi (l.take (k + 1))) := by unfold Hid; rw [HS2.out, if_neg (by simp [hH, hB])]
              go_wp2_with fail
              refine (HC1.out _).mono ?_
              rintro e w' ⟨rfl, n1, rfl⟩
              go_wp2_with fail
              refine (HC2.out _).mono ?_
              rintro e w' ⟨rfl, n2, rfl⟩
              have HQ : Hid (KrNew w ((wr.drewN n1).drewN n2) (.slice x M.length c) (rowK M) rr) := HA.out.later (below_drewN (below_drewN (Below.refl _ _) n1) n2)
              go_wp2
              go_roundw
              case rel => exact ⟨k + 1, M, x, c, rr, by omega, by go_num, rfl, by omega, HN.out, hMl, by first | exact HQ.out | (rw [← World.drewN_drewN]; exact HQ.out)⟩
              case measure => simp [intOf]; omega
      · have HE : Hid ((rngL lo hi l).take lim.toNat = M) := by
          unfold Hid
          rw [HM.out]
          exact HFU.out k (by rw [← HM.out]; omega)
        go_wp2
        go_ret
        first
          | exact ⟨_, rr, rfl, by rw [HE.out]; exact HA.out⟩
          | exact ⟨_, rfl, rr, by first | (rw [HE.out]; exact HA.out) | (rw [← List.map_take, HE.out]; exact HA.out)⟩
    · obtain rfl : k = l.length := by omega
      have HE : Hid ((rngL lo hi l).take lim.toNat = M) := by
        unfold Hid
        rw [HM.out]
        exact HFL.out (by rw [← HM.out]; exact hMl)
      go_wp2
      go_ret
      refine ⟨_, rr, rfl, ?_⟩
      rw [HE.out]
      exact HA.out
theorem xlistOf (gx : Nat) (v : Value) (l : List Ke) (r : Option Nat) (lo hi : ByteArray) (w : World) (h : XDirAt w gx v l r) (hlo : lo.size ≤ maxLen) (hhi : hi.size ≤ maxLen) :
    Calls Try.prog 33 #[.pointer (some ⟨gx, 0, none⟩), .string lo, .string hi] w fun e w' => ∃ v' r', e = .returned v' ∧ KrNew w w' v' (rowK (rngL lo hi l)) r' := by
  obtain ⟨a, cap, rfl, hc1, hc2⟩ := h.shape
  have HR : Hid (Calls Try.prog 29 #[.pointer (some ⟨gx, 0, none⟩), .string lo, .string hi, .int .i64 l.length] w fun e w' => ∃ v' r', e = .returned v' ∧ KrNew w w' v' (rowK (rngL lo hi l)) r') := by
    have := xrangeOf gx _ l r lo hi l.length w h hlo hhi
    rw [Int.toNat_natCast, List.take_of_length_le (show (rngL lo hi l).length ≤ l.length from List.length_filter_le ..)] at this
    exact this
  have c0 := h.cell
  clear h
  go_enter Try.func33, Try.ntmps33
  go_wp2_with fail
  refine HR.out.mono ?_
  rintro e w' ⟨v', r', rfl, hn⟩
  have HN : Hid (KrNew w w' v' (rowK (rngL lo hi l)) r') := hn
  clear hn
  go_wp2
  go_ret
  exact ⟨_, r', rfl, HN.out⟩
end Go.Proofs.Ytjhbaplnkigifaa

/-! keydir: the document's Begin. -/
namespace Go.Proofs.Ytjhbaplnkigifaa
open Go.RowKit Plain
set_option linter.unusedVariables false
set_option linter.unusedSimpArgs false

theorem beg_snoc (p : ByteArray) (l : List Ke) (k : Nat) (h : k < l.length) : (l.take (k + 1)).filter (begB p) = if begB p (l.getD k Ke.zero) then (l.take k).filter (begB p) ++ [l.getD k Ke.zero] else (l.take k).filter (begB p) := by
  rw [takeK h, List.filter_append]
  by_cases e : begB p (l.getD k Ke.zero) = true
  · rw [if_pos e, List.filter_cons, if_pos e, List.filter_nil]
  · rw [if_neg e, List.filter_cons, if_neg e, List.filter_nil, List.append_nil]
set_option maxHeartbeats 16000000 in
set_option maxRecDepth 100000 in
theorem xbeginOf (gx : Nat) (v : Value) (l : List Ke) (r : Option Nat) (p : ByteArray) (w : World) (h : XDirAt w gx v l r) (hp : p.size ≤ maxLen) :
    Calls Try.prog 34 #[.pointer (some ⟨gx, 0, none⟩), .string p] w fun e w' => ∃ v' r', e = .returned v' ∧ KrNew w w' v' (rowK (l.filter (begB p))) r' := by
  obtain ⟨a, cap, rfl, hc1, hc2⟩ := h.shape
  have HXA : Hid (∀ u, Below w.heap.size w u → XDirAt u gx (.slice a l.length cap) l r) := fun u hu => h.later hu
  have hll := h.len
  have HSN : Hid (∀ k, k < l.length → (l.take (k + 1)).filter (begB p) = if begB p (l.getD k Ke.zero) then (l.take k).filter (begB p) ++ [l.getD k Ke.zero] else (l.take k).filter (begB p)) := fun k hk => beg_snoc p l k hk
  have HFL : Hid ((l.take l.length).filter (begB p) = l.filter (begB p)) := by unfold Hid; rw [List.take_length]
  have HSH : Hid (∀ k, k < l.length → (l.getD k Ke.zero).key.size ≤ 64) := fun k hk => h.short _ (ke_getD_mem hk)
  have HZ : Hid ((l.take 0).filter (begB p) = []) := rfl
  unfold maxLen at hp
  clear h
  go_enter Try.func34, Try.ntmps34
  go_wp2
  go_loopw [5, 6] (fun s7 i wr => ∃ (k : Nat) (M : List Ke) (x : Option Addr) (c : Nat) (rr : Option Nat), k ≤ l.length ∧ i = .int .i64 k ∧ s7 = .slice x M.length c ∧ M.length ≤ k ∧ Hid (M = (l.take k).filter (begB p)) ∧ Hid (KrNew w wr (.slice x M.length c) (rowK M) rr))
    (fun _ i _ => l.length - (intOf i).toNat)
  case atStart => exact ⟨0, [], none, 0, none, Nat.zero_le _, rfl, rfl, by simp, HZ.out.symm, KrNew.nil w⟩
  case round =>
    obtain ⟨k, M, x, c, rr, hk, rfl, rfl, hMk, HM, HA⟩ := hrel
    have c0 := (HXA.out wr HA.out.below).cell
    by_cases hlt : k < l.length
    · have hki : (k : Int) < (l.length : Int) := by omega
      obtain ⟨g, rfl, rfl, hc⟩ := (HXA.out wr HA.out.below).at hlt
      have HS1 := HSN.out k hlt
      rw [← HM.out] at HS1
      have HS2 : Hid ((l.take (k + 1)).filter (begB p) = if begB p (l.getD k Ke.zero) then M ++ [l.getD k Ke.zero] else M) := HS1
      clear HS1
      have hsz := HSH.out k hlt
      have HCX : Hid (∀ u, Below w.heap.size w u → Kr.CellsAt u g (k * 7) (l.getD k Ke.zero).r) := fun u hu => by
        obtain ⟨g', e, _, hc⟩ := (HXA.out u hu).at hlt
        cases e
        exact hc
      generalize l.getD k Ke.zero = xx at *
      obtain ⟨yk, ye⟩ := xx
      obtain ⟨y1, y2, y3, y4, y5, y6⟩ := ye
      simp only at hsz
      obtain ⟨d0, d1, d2, d3, d4, d5, d6⟩ := hc
      simp only [Ke.r] at d0 d1 d2 d3 d4 d5 d6
      by_cases hps : p.size ≤ yk.size
      · have hpi : (p.size : Int) ≤ (yk.size : Int) := by omega
        have hbe : ((yk.extract 0 p.size).toList == p.toList) = begB p ⟨yk, ⟨y1, y2, y3, y4, y5, y6⟩⟩ := beg_eq hps
        cases hb : begB p ⟨yk, ⟨y1, y2, y3, y4, y5, y6⟩⟩ with
        | true =>
          rw [hb] at hbe
          have HN : Hid (M ++ [⟨yk, ⟨y1, y2, y3, y4, y5, y6⟩⟩] = (l.take (k + 1)).filter (begB p)) := by unfold Hid; rw [HS2.out, if_pos hb]
          clear hb
          go_wp2_with (at_builtin; refine wpList_append_ka _ rfl _ _ rfl _ _ (rowK M) [Ke.r ⟨yk, ⟨y1, y2, y3, y4, y5, y6⟩⟩] rr rfl rfl ?hOwna ?hSrca ?hLena ?_)
          case hOwna => exact HA.out.row.later ((Below.refl _ _).alloc (Nat.le_refl _) _)
          case hSrca => exact src_kr _ ⟨yk, ⟨y1, y2, y3, y4, y5, y6⟩⟩
          case hLena => simp; omega
          intro v8 w8 r8 ho8 hg8 hr8
          have HA8 : Hid (KrNew w w8 v8 (rowK (M ++ [⟨yk, ⟨y1, y2, y3, y4, y5, y6⟩⟩])) r8) := by
            have := (HA.out.later ((Below.refl _ _).alloc (Nat.le_refl _) _)).app ho8 hg8 (by simpa using hr8)
            unfold Hid
            simpa [rowK] using this
          obtain ⟨x8, c8, rfl, -, -⟩ := HA8.out.row.shape
          rw [List.length_map] at HA8 ⊢
          have hlen8 : (M ++ [(⟨yk, ⟨y1, y2, y3, y4, y5, y6⟩⟩ : Ke)]).length = M.length + 1 := by simp
          clear ho8 hg8 hr8
          generalize hM8 : M ++ [(⟨yk, ⟨y1, y2, y3, y4, y5, y6⟩⟩ : Ke)] = M8 at HA8 HN hlen8 ⊢
          clear hM8
          go_wp2
          go_roundw
          case rel => exact ⟨k + 1, M8, x8, c8, r8, by omega, by go_num, rfl, by omega, HN.out, HA8.out⟩
          case measure => simp [intOf]; omega
        | false =>
          rw [hb] at hbe
          have HN : Hid (M = (l.take (k + 1)).filter (begB p)) := by unfold Hid; rw [HS2.out, if_neg (by rw [hb]; simp)]
          clear hb
          go_wp2
          go_roundw
          case rel => exact ⟨k + 1, M, x, c, rr, by omega, by go_num, rfl, by omega, HN.out, HA.out⟩
          case measure => simp [intOf]; omega
      · have hpi : ¬ (p.size : Int) ≤ (yk.size : Int) := by omega
        have HN : Hid (M = (l.take (k + 1)).filter (begB p)) := by unfold Hid; rw [HS2.out, if_neg (by rw [beg_short (by omega)]; simp)]
        go_wp2
        go_roundw
        case rel => exact ⟨k + 1, M, x, c, rr, by omega, by go_num, rfl, by omega, HN.out, HA.out⟩
        case measure => simp [intOf]; omega
    · obtain rfl : k = l.length := by omega
      have HE : Hid (l.filter (begB p) = M) := by unfold Hid; rw [HM.out, HFL.out]
      go_wp2
      go_ret
      first
        | exact ⟨_, rr, rfl, by rw [HE.out]; exact HA.out⟩
        | exact ⟨_, rfl, rr, by rw [HE.out]; exact HA.out⟩
end Go.Proofs.Ytjhbaplnkigifaa

/-! keydir: the law's first. -/
namespace Go.Proofs.Ytjhbaplnkigifaa
open Go.RowKit Plain
set_option linter.unusedVariables false
set_option linter.unusedSimpArgs false

def firstL (st : List Kr) (n : Int) : List Kr := if 0 ≤ n ∧ n < (st.length : Int) then st.take n.toNat else st
theorem KrsAt.take {w : World} {a : Option Addr} {n c m c' : Nat} {st : List Kr} (h : KrsAt w (.slice a n c) st) (hm : m ≤ st.length) : KrsAt w (.slice a m c') (st.take m) := by
  obtain ⟨a', cap, e, h1, h2, h3⟩ := h
  injection e with e1 e2 e3
  subst e1
  have hl : (st.take m).length = m := by simp; omega
  refine ⟨a, c', by rw [hl], by omega, fun x hx => h2 x (List.mem_of_mem_take hx), fun hne => ?_⟩
  obtain ⟨b, off, e4, hc⟩ := h3 (by intro e5; rw [e5] at hne; simp at hne)
  refine ⟨b, off, e4, fun j hj => ?_⟩
  rw [hl] at hj
  have := hc j (by omega)
  rwa [show (st.take m).getD j Kr.zero = st.getD j Kr.zero by rw [List.getD_eq_getElem?_getD, List.getD_eq_getElem?_getD, List.getElem?_take_of_lt hj]]
theorem firstOf (v : Value) (st : List Kr) (n : Int) (w : World) (h : KrsAt w v st) (hr : ∀ a m c, v = .slice a m c → m ≤ c ∧ c ≤ maxLen) (hn : I64 n) :
    Calls Try.prog 32 #[v, .int .i64 n] w fun e w' => ∃ v', e = .returned v' ∧ KrsAt w' v' (firstL st n) ∧ w' = w := by
  have HK : Hid (KrsAt w v st) := h
  obtain ⟨a, cap, rfl, h1, -, -⟩ := h
  obtain ⟨hc1, hc2⟩ := hr a st.length cap rfl
  clear hr
  unfold I64 at hn
  unfold maxLen at hc2
  by_cases hc : 0 ≤ n ∧ n < (st.length : Int)
  · obtain ⟨k, rfl⟩ : ∃ k : Nat, n = k := ⟨n.toNat, by omega⟩
    have HF : Hid (∀ c', KrsAt w (.slice a k c') (firstL st k)) := fun c' => by
      unfold firstL
      rw [if_pos hc, Int.toNat_natCast]
      exact HK.out.take (by omega)
    obtain ⟨hca, hcb⟩ := hc
    go_enter Try.func32, Try.ntmps32
    go_wp2
    go_ret
    exact ⟨_, rfl, HF.out _, rfl⟩
  · have HF : Hid (KrsAt w (.slice a st.length cap) (firstL st n)) := by
      unfold Hid firstL
      rw [if_neg hc]
      exact HK.out
    have hcc : n < 0 ∨ (¬ n < 0 ∧ ¬ n < (st.length : Int)) := by omega
    rcases hcc with hcc | ⟨hcc, hcd⟩
    · clear hc
      go_enter Try.func32, Try.ntmps32
      go_wp2
      go_ret
      exact ⟨_, rfl, HF.out, rfl⟩
    · clear hc
      go_enter Try.func32, Try.ntmps32
      go_wp2
      go_ret
      exact ⟨_, rfl, HF.out, rfl⟩
end Go.Proofs.Ytjhbaplnkigifaa
