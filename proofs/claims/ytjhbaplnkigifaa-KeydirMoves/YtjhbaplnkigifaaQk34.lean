import Derived.Test.YtjhbaplnkigifaaQk33
import Derived.Test.YtjhbaplnkigifaaQk27
import Derived.Deep.RegionHeld3
/-! keydir: told: Erode. -/
namespace Go.Proofs.Ytjhbaplnkigifaa
open Go.RowKit Plain
set_option linter.unusedVariables false
set_option linter.unusedSimpArgs false

set_option maxHeartbeats 16000000 in
set_option maxRecDepth 100000 in
theorem toldErode {D : Nat → Prop} {w : World} {gw : Nat} {vd vx vl : Value} {rd rx rl : Option Nat} {ps : List Dp} {hs : List Ho} (m : Mv) (h : WdAt D w gw vd vx vl rd rx rl ps hs) (hk : m.kind = 11) (hkey : m.key.size ≤ maxLen) (hdir : I64 m.dir) (hlim : I64 m.n) (hhi : m.hi.size ≤ maxLen) (hok : ∀ i, i < ps.length → (ps.getD i Dp.zero).l.length < 2199023254000) (hE : (Ke.r ⟨⟨#[]⟩, m.e⟩).Ok) :
    Calls Try.prog 6 #[.pointer (some ⟨gw, 0, none⟩), m.v] w fun e w' => e = .returned (.bool true) ∧ ∃ D' ps', Grew ps ps' ∧ Fr3 D D' (WOwn gw rd rx rl ps hs) (WOwn gw rd rx rl ps' hs) w w' ∧ WdAt D' w' gw vd vx vl rd rx rl ps' hs := by
  obtain ⟨mdir, mkind, key, hi, me, lim⟩ := m
  simp only at hk hkey hdir hE hlim hhi
  subst hk
  obtain ⟨ad, capd, e, hd1, hd2⟩ := h.rowd.shape
  obtain ⟨ax, capx, e2, hx1, hx2⟩ := h.rowx.shape
  rw [List.length_map] at e e2 hd2 hx2
  subst e e2
  obtain ⟨w0, hw0⟩ : ∃ w0, w.alloc (.cells #[.int .i64 mdir, .int .i64 11, .string key, .string hi, .int .i64 me.seg, .int .i64 me.pos, .int .i64 me.size, .int .i64 me.off, .int .i64 me.time, .bool me.tomb, .int .i64 lim] 40) = w0 := ⟨_, rfl⟩
  have hb0 : Below w.heap.size w w0 := by rw [← hw0]; exact (Below.refl _ _).alloc (Nat.le_refl _) _
  have HM0 : Hid (MvAt w0 w.heap.size ⟨mdir, 11, key, hi, me, lim⟩) := by unfold Hid; rw [← hw0]; exact MvAt.new w ⟨mdir, 11, key, hi, me, lim⟩
  have HW0 : Hid (WdAt D w0 gw (.slice ad ps.length capd) (.slice ax ps.length capx) vl rd rx rl ps hs) := h.later hb0
  have HB00 : Hid (Below w.heap.size w w0) := hb0
  have c0 := HW0.out.c0
  have c1 := HW0.out.c1
  obtain ⟨hp1, hp8⟩ := h.some2
  have HMO : Hid (∀ u, Calls Try.prog 10 #[.int .i64 mdir, .int .i64 ps.length] u fun e w' => (∃ k : Nat, k < ps.length ∧ e = .returned (.int .i64 k)) ∧ w' = u) := fun u => modOf mdir ps.length u hp1 (by omega) hdir
  have m0 := HM0.out.c 0 _ rfl
  have m1 := HM0.out.c 1 _ rfl
  have m2 := HM0.out.c 2 _ rfl
  have m4 := HM0.out.c 4 _ rfl
  have m5 := HM0.out.c 5 _ rfl
  have m6 := HM0.out.c 6 _ rfl
  have m7 := HM0.out.c 7 _ rfl
  have m8 := HM0.out.c 8 _ rfl
  have m9 := HM0.out.c 9 _ rfl
  have HDB : Hid (∀ g, D g → g < w.heap.size) := h.dw.bnd
  clear h hb0
  go_enter Try.func6, Try.ntmps6
  go_wp2
  go_region_held3 (fun w' => w'.cell? ⟨gw, 0, none⟩ = some (.slice ad ps.length capd) ∧ w'.cell? ⟨w.heap.size, 0, none⟩ = some (.int .i64 mdir)) (go_keep) (first
    | (go_at_call 10
       refine (HMO.out _).mono ?_
       rintro e w' ⟨⟨k, hkl, rfl⟩, hw'⟩
       rcases hw' with rfl))
  have hbd : Below w0.heap.size w0 w0.drew := Below.drew (Below.refl _ _)
  have HW1 : Hid (WdAt D w0.drew gw (.slice ad ps.length capd) (.slice ax ps.length capx) vl rd rx rl ps hs) := HW0.out.later hbd
  have HB01 : Hid (Below w.heap.size w w0.drew) := Below.drew HB00.out
  have HM1 : Hid (MvAt w0.drew w.heap.size ⟨mdir, 11, key, hi, me, lim⟩) := HM0.out.later hbd
  clear hbd c0 c1 m0 m1 m2 m4 m5 m6 m7 m8 m9 HW0 HM0 HMO
  generalize w0.drew = w1 at HW1 HM1 HB01 ⊢
  have c0 := HW1.out.c0
  have c1 := HW1.out.c1
  have m1 := HM1.out.c 1 _ rfl
  have m2 := HM1.out.c 2 _ rfl
  have m4 := HM1.out.c 4 _ rfl
  have m5 := HM1.out.c 5 _ rfl
  have m6 := HM1.out.c 6 _ rfl
  have m7 := HM1.out.c 7 _ rfl
  have m8 := HM1.out.c 8 _ rfl
  have m9 := HM1.out.c 9 _ rfl
  simp only at m1 m2 m4 m5 m6 m7 m8 m9
  obtain ⟨g1, g2, rfl, rfl, q1, q2⟩ := HW1.out.pick hkl
  have hki : (k : Int) < (ps.length : Int) := by omega
  have HPA : Hid (PairAt D w1 (ps.getD k Dp.zero)) := HW1.out.dw.pr k hkl
  have hll := hok k hkl
  obtain ⟨p, hp⟩ : ∃ p, ps.getD k Dp.zero = p := ⟨_, rfl⟩
  rw [hp] at q1 q2 HPA hll
  have HER : Hid (Calls Try.prog 37 #[.pointer (some ⟨p.gd, 0, none⟩), .pointer (some ⟨p.gx, 0, none⟩), Mv.v ⟨mdir, 11, key, hi, me, lim⟩] w1 fun e w' => e = .returned (.bool true) ∧ ∃ D' p', p'.l.length ≤ p.l.length ∧ Ev0 D w1 p D' w' p') := erodeOf ⟨mdir, 11, key, hi, me, lim⟩ HPA.out HW1.out.dw.bnd hkey hhi hE hll
  have HFI : Hid (∀ w3 D' p', p'.l.length ≤ p.l.length → Ev0 D w1 p D' w3 p' → ∃ D' ps', Grew ps ps' ∧ Fr3 D D' (WOwn gw rd rx rl ps hs) (WOwn gw rd rx rl ps' hs) w w3 ∧ WdAt D' w3 gw (.slice (some ⟨g1, 0, none⟩) ps.length capd) (.slice (some ⟨g2, 0, none⟩) ps.length capx) vl rd rx rl ps' hs) := fun w3 D' p' hpl he => by
    rw [← hp] at he hpl
    obtain ⟨f, hw⟩ := HW1.out.stepG hkl he
    exact ⟨D', _, Grew.set hkl (by omega), (Fr3.below HB01.out).trans f, hw⟩
  have m0 := HM1.out.c 0 _ rfl
  have m3 := HM1.out.c 3 _ rfl
  have m10 := HM1.out.c 10 _ rfl
  simp only at m0 m3 m10
  clear hp
  go_wp2_with fail
  refine HER.out.mono ?_
  rintro e w3 ⟨rfl, D', p', hpl, he⟩
  have HF := Hid.mkz (HFI.out w3 D' p' hpl he)
  clear he HFI HER
  go_wp2
  go_ret
  exact ⟨rfl, HF.out⟩
/-- What told answers of an Erode. -/
theorem eroOk : EroOk := fun D w gw vd vx vl rd rx rl ps hs m h hk hm hl => toldErode m h hk hm.key hm.dir hm.n hm.hi hl hm.e
end Go.Proofs.Ytjhbaplnkigifaa
