import Derived.Test.YthfnbcicpcbgjaaKtd
import Derived.Test.YthfnbcicpcbgjaaKtp
import Derived.Test.YthfnbcicpcbgjaaOwn
/-! keydir: the lowest key, or any, is taken out of a tree. -/
namespace Go.Proofs.Ythfnbcicpcbgjaa
open Go.RowKit Plain
set_option linter.unusedVariables false

theorem TreeAt.weak {P Q : Nat → Prop} {w : World} (hPQ : ∀ g, P g → Q g) : ∀ {n : Nat} {p : Option Addr} {l : List Ke}, TreeAt P w n p l → TreeAt Q w n p l
  | 0, p, l, h => h
  | n + 1, p, l, h => by
    rcases h with h | ⟨g, k, pl, pr, ll, lr, e, hp, hk, hn, hl, h1, h2⟩
    · exact .inl h
    · exact .inr ⟨g, k, pl, pr, ll, lr, e, hPQ g hp, hk, hn, hl, h1.weak hPQ, h2.weak hPQ⟩
theorem TreeAt.tight {P Q : Nat → Prop} {w : World} (hPQ : ∀ g, P g → g < w.heap.size → Q g) : ∀ {n : Nat} {p : Option Addr} {l : List Ke}, TreeAt P w n p l → TreeAt Q w n p l
  | 0, p, l, h => h
  | n + 1, p, l, h => by
    rcases h with h | ⟨g, k, pl, pr, ll, lr, e, hp, hk, hn, hl, h1, h2⟩
    · exact .inl h
    · exact .inr ⟨g, k, pl, pr, ll, lr, e, hPQ g hp hn.lt, hk, hn, hl, h1.tight hPQ, h2.tight hPQ⟩
def putKe (w : World) (g : Nat) (k : Ke) : World := (((((((w.setCell ⟨g, 0, none⟩ (.string k.key)).setCell ⟨g, 1, none⟩ (.int .i64 k.e.seg)).setCell ⟨g, 2, none⟩ (.int .i64 k.e.pos)).setCell ⟨g, 3, none⟩ (.int .i64 k.e.size)).setCell ⟨g, 4, none⟩ (.int .i64 k.e.off)).setCell ⟨g, 5, none⟩ (.int .i64 k.e.time)).setCell ⟨g, 6, none⟩ (.bool k.e.tomb))
theorem putKe_grow (w : World) (g : Nat) (k : Ke) : w.grownBy (putKe w g k) (some g) := grow_setCells w g 0 [.string k.key, .int .i64 k.e.seg, .int .i64 k.e.pos, .int .i64 k.e.size, .int .i64 k.e.off, .int .i64 k.e.time, .bool k.e.tomb]
theorem grown_drew {w w' : World} {r : Option Nat} (h : w.grownBy w' r) : w.grownBy w'.drew r := ⟨h.os, h.tape, h.output, h.size, h.block⟩
theorem TreeAt.grown {P : Nat → Prop} {w w' : World} {n g : Nat} {p : Option Addr} {l : List Ke} (h : TreeAt P w n p l) (hg : w.grownBy w' (some g)) (hne : ∀ j, P j → j ≠ g) : TreeAt P w' n p l := h.kept fun j hj hp => hg.block j hj (fun e => hne j hp (by cases e; rfl))
theorem hresCut : Try.f65.results = #[.cell 2 28, .tmp 3] := by kernel_rfl

def CutPost (P : Nat → Prop) (w : World) (l : List Ke) (e : Ending) (w' : World) : Prop :=
  ∃ (n : Nat) (q : Option Addr) (x : Ke) (rest : List Ke), l = x :: rest ∧ x.key.size ≤ 64 ∧ e = .returned (.tuple #[x.v, .pointer q]) ∧ TreeAt P w' n q rest ∧ Below w.heap.size w w'

set_option maxHeartbeats 4000000 in
theorem cutOf : ∀ (n : Nat) (P : Nat → Prop) (w : World) (p : Option Addr) (l : List Ke), (∀ g, w.heap.size ≤ g → P g) → TreeAt P w n p l → l ≠ [] → l.length ≤ 1125899906842620 → Calls Try.prog 65 #[.pointer p] w (CutPost P w l) := by
  intro n
  induction n with
  | zero =>
    intro P w p l hP ht hne hl
    exact absurd ht.2 hne
  | succ n ih0 =>
  intro P w p l hP ht hne hl
  cases p with
  | none => exact absurd ht.none_is hne
  | some ar =>
  obtain ⟨m', g, k, pl, pr, ll, lr, hm, rfl, hPg, hkk, hng, rfl, hl1, hr1⟩ := ht.some_is
  have hm' : m' = n := by omega
  subst hm'
  have hlen : (ll ++ k :: lr).length = ll.length + lr.length + 1 := by simp; omega
  rw [hlen] at hl hng
  have hgw : g < w.heap.size := hng.lt
  have HNR : Hid (∀ u, Below w.heap.size w u → NodeAt u g k (ll.length + lr.length + 1) pl pr) := fun u hu => hng.block (hu.block _ hng.lt)
  clear ht hng
  cases pl with
  | none =>
    obtain rfl := hl1.none_is
    obtain ⟨w0, hw0⟩ : ∃ w0, w.alloc (.cells #[.string ⟨#[]⟩, .int .i64 0, .int .i64 0, .int .i64 0, .int .i64 0, .int .i64 0, .bool false] 28) = w0 := ⟨_, rfl⟩
    have hb0 : Below w.heap.size w w0 := by rw [← hw0]; exact (Below.refl _ _).alloc (Nat.le_refl _) _
    obtain ⟨r0, r1, r2, r3, r4, r5, r6⟩ : KeAt w0 w.heap.size Ke.zero := by rw [← hw0]; exact KeAt.new w Ke.zero
    simp only [Ke.zero, En.zero] at r0 r1 r2 r3 r4 r5 r6
    have hsf : ∀ j, w0.frozen? ⟨w.heap.size, j, none⟩ = false := fun j => by rw [← hw0]; exact World.frozen?_alloc_at _ _ _ _ rfl
    obtain ⟨c0, c1, c2, c3, c4, c5, c6, c7, c8, c9⟩ := HNR.out w0 hb0
    have f0 := hsf 0
    have f1 := hsf 1
    have f2 := hsf 2
    have f3 := hsf 3
    have f4 := hsf 4
    have f5 := hsf 5
    have f6 := hsf 6
    go_enter Try.func65, Try.ntmps65
    have hne1 : ¬ g = w.heap.size := by omega
    have hne2 : ¬ w.heap.size = g := by omega
    go_wp2
    go_region_held3 (fun w' => w'.cell? ⟨g, 0, none⟩ = some (.string k.key) ∧ w'.cell? ⟨g, 1, none⟩ = some (.int .i64 k.e.seg) ∧ w'.cell? ⟨g, 2, none⟩ = some (.int .i64 k.e.pos) ∧ w'.cell? ⟨g, 3, none⟩ = some (.int .i64 k.e.size) ∧ w'.cell? ⟨g, 4, none⟩ = some (.int .i64 k.e.off) ∧ w'.cell? ⟨g, 5, none⟩ = some (.int .i64 k.e.time) ∧ w'.cell? ⟨g, 6, none⟩ = some (.bool k.e.tomb) ∧ w'.cell? ⟨g, 9, none⟩ = some (.pointer pr)) (go_keep) (fail)
    have HG : Hid (w0.grownBy (putKe w0 w.heap.size k).drew (some w.heap.size)) := grown_drew (putKe_grow w0 w.heap.size k)
    have HBF : Hid (Below w.heap.size w (putKe w0 w.heap.size k).drew) := hb0.trans (grow_below HG.out hb0.size (fun g e => by cases e; exact Nat.le_refl _))
    have HT : Hid (TreeAt P (putKe w0 w.heap.size k).drew m' pr lr) := (TreeAt.tight (Q := P) (fun _ h _ => h) hr1).kept fun j hj hp => HBF.out.block j hj
    go_wp2
    refine bodyPost_ret (v := .tuple #[k.v, .pointer pr]) ?_ rfl ⟨_, pr, k, lr, rfl, hkk, rfl, HT.out, HBF.out⟩
    simp only [results, hresCut]
    go_simp
  | some al =>
    have hln : ll ≠ [] := by
      obtain ⟨_, _, _, _, _, _, _, _, _, _, _, _, h, _⟩ := hl1.some_is
      rw [h]; simp
    obtain ⟨w0, hw0⟩ : ∃ w0, w.alloc (.cells #[.string ⟨#[]⟩, .int .i64 0, .int .i64 0, .int .i64 0, .int .i64 0, .int .i64 0, .bool false] 28) = w0 := ⟨_, rfl⟩
    have hb0 : Below w.heap.size w w0 := by rw [← hw0]; exact (Below.refl _ _).alloc (Nat.le_refl _) _
    have hs0 : w.heap.size < w0.heap.size := by rw [← hw0]; simp
    have HPU : Hid (∀ u, Below w0.heap.size w0 u → ∀ g, u.heap.size ≤ g → P g ∧ g ≠ w.heap.size) := fun u hu g hg => by have := hu.size; exact ⟨hP g (by omega), by omega⟩
    have HL1 : Hid (∀ u, Below w.heap.size w u → TreeAt (fun g => P g ∧ g ≠ w.heap.size) u m' (some al) ll) := fun u hu => (TreeAt.tight (fun g h1 h2 => ⟨h1, by omega⟩) hl1).later hu
    have HR1 : Hid (∀ u, Below w.heap.size w u → TreeAt (fun g => P g ∧ g ≠ w.heap.size) u m' pr lr) := fun u hu => (TreeAt.tight (fun g h1 h2 => ⟨h1, by omega⟩) hr1).later hu
    have HRS : Hid (∀ u, Below w0.heap.size w0 u → KeAt u w.heap.size Ke.zero ∧ ∀ j, u.frozen? ⟨w.heap.size, j, none⟩ = false) := fun u hu => by
      have h : KeAt w0 w.heap.size Ke.zero := by rw [← hw0]; exact KeAt.new w Ke.zero
      refine ⟨h.block (hu.block _ h.lt), fun j => ?_⟩
      rw [hu.frozen (p := ⟨w.heap.size, j, none⟩) h.lt, ← hw0]
      exact World.frozen?_alloc_at _ _ _ _ rfl
    have HCU : Hid (Calls Try.prog 65 #[.pointer (some al)] w0 (CutPost (fun g => P g ∧ g ≠ w.heap.size) w0 ll)) := ih0 _ w0 (some al) ll (HPU.out w0 (Below.refl _ _)) (HL1.out w0 hb0) hln (by omega)
    obtain ⟨c0, c1, c2, c3, c4, c5, c6, c7, c8, c9⟩ := HNR.out w0 hb0
    clear ih0 hl1 hr1
    go_enter Try.func65, Try.ntmps65
    go_wp2_with fail
    refine HCU.out.mono ?_
    rintro e w1 ⟨n1, q1, x1, rest1, hx1, hk1, rfl, ht1, hb1⟩
    subst hx1
    have hsz1 := hb1.size
    have HB1 : Hid (Below w.heap.size w w1) := hb0.trans (hb1.mono hb0.size)
    obtain ⟨w2, hw2⟩ : ∃ w2, w1.alloc (.cells #[.string x1.key, .int .i64 x1.e.seg, .int .i64 x1.e.pos, .int .i64 x1.e.size, .int .i64 x1.e.off, .int .i64 x1.e.time, .bool x1.e.tomb] 28) = w2 := ⟨_, rfl⟩
    have hb12 : Below w1.heap.size w1 w2 := by rw [← hw2]; exact (Below.refl _ _).alloc (Nat.le_refl _) _
    have hb02 : Below w0.heap.size w0 w2 := hb1.trans (hb12.mono hsz1)
    have hb2 : Below w.heap.size w w2 := hb0.trans (hb02.mono hb0.size)
    have HX : Hid (∀ u, Below w2.heap.size w2 u → KeAt u w1.heap.size x1) := fun u hu => by
      have h : KeAt w2 w1.heap.size x1 := by rw [← hw2]; exact KeAt.new w1 x1
      exact h.block (hu.block _ h.lt)
    have HT1 : Hid (TreeAt (fun g => P g ∧ g ≠ w.heap.size) w2 n1 q1 rest1) := ht1.later hb12
    have HBA : Hid (∀ u, Below w2.heap.size w2 u → Calls Try.prog 64 #[k.v, .pointer q1, .pointer pr] u (TreeRet (fun g => P g ∧ g ≠ w.heap.size) u (rest1 ++ k :: lr))) := fun u hu => balancedOf k u (HPU.out u (hb02.trans (hu.mono hb02.size))) hkk (HT1.out.later hu) (HR1.out u (hb2.trans (hu.mono hb2.size))) (by simp at hl; omega)
    have HRS2 : Hid (∀ u, Below w2.heap.size w2 u → KeAt u w.heap.size Ke.zero ∧ ∀ j, u.frozen? ⟨w.heap.size, j, none⟩ = false) := fun u hu => HRS.out u (hb02.trans (hu.mono hb02.size))
    have HBW2 : Hid (Below w.heap.size w w2) := hb2
    have hne1 : ¬ g = w.heap.size := by omega
    have hne2 : ¬ w.heap.size = g := by omega
    have hne3 : ¬ w1.heap.size = w.heap.size := by omega
    have hne4 : ¬ w.heap.size = w1.heap.size := by omega
    clear c0 c1 c2 c3 c4 c5 c6 c7 c8 c9 ht1 hb1 HRS HCU hb12 hb02
    obtain ⟨c0, c1, c2, c3, c4, c5, c6, c7, c8, c9⟩ := HNR.out w2 hb2
    obtain ⟨d0, d1, d2, d3, d4, d5, d6⟩ := HX.out w2 (Below.refl _ _)
    go_wp2
    go_region_held3 (fun w' => w'.cell? ⟨g, 0, none⟩ = some (.string k.key) ∧ w'.cell? ⟨g, 1, none⟩ = some (.int .i64 k.e.seg) ∧ w'.cell? ⟨g, 2, none⟩ = some (.int .i64 k.e.pos) ∧ w'.cell? ⟨g, 3, none⟩ = some (.int .i64 k.e.size) ∧ w'.cell? ⟨g, 4, none⟩ = some (.int .i64 k.e.off) ∧ w'.cell? ⟨g, 5, none⟩ = some (.int .i64 k.e.time) ∧ w'.cell? ⟨g, 6, none⟩ = some (.bool k.e.tomb) ∧ w'.cell? ⟨g, 9, none⟩ = some (.pointer pr) ∧ w'.cell? ⟨w1.heap.size, 0, none⟩ = some (.string x1.key) ∧ w'.cell? ⟨w1.heap.size, 1, none⟩ = some (.int .i64 x1.e.seg) ∧ w'.cell? ⟨w1.heap.size, 2, none⟩ = some (.int .i64 x1.e.pos) ∧ w'.cell? ⟨w1.heap.size, 3, none⟩ = some (.int .i64 x1.e.size) ∧ w'.cell? ⟨w1.heap.size, 4, none⟩ = some (.int .i64 x1.e.off) ∧ w'.cell? ⟨w1.heap.size, 5, none⟩ = some (.int .i64 x1.e.time) ∧ w'.cell? ⟨w1.heap.size, 6, none⟩ = some (.bool x1.e.tomb)) (go_keep) (first
      | (go_at_call 64
         refine (HBA.out _ (Below.drew (Below.refl _ _))).mono ?_
         rintro e w3 ⟨n3, p3, rfl, ht3, hb3⟩
         have hb23 : Below w2.heap.size w2 w3 := (Below.drew (Below.refl _ w2)).trans hb3
         have HB3 : Hid (Below w.heap.size w w3) := HBW2.out.trans (hb23.mono HBW2.out.size)
         have HT3 : Hid (TreeAt (fun g => P g ∧ g ≠ w.heap.size) w3 n3 p3 (rest1 ++ k :: lr)) := ht3
         rcases HNR.out w3 HB3.out with ⟨a0, a1, a2, a3, a4, a5, a6, a7, a8, a9⟩
         rcases HX.out w3 hb23 with ⟨b0, b1, b2, b3, b4, b5, b6⟩
         rcases (HRS2.out w3 hb23).1 with ⟨r0, r1, r2, r3, r4, r5, r6⟩
         simp only [Ke.zero, En.zero] at r0 r1 r2 r3 r4 r5 r6
         have f0 := (HRS2.out w3 hb23).2 0
         have f1 := (HRS2.out w3 hb23).2 1
         have f2 := (HRS2.out w3 hb23).2 2
         have f3 := (HRS2.out w3 hb23).2 3
         have f4 := (HRS2.out w3 hb23).2 4
         have f5 := (HRS2.out w3 hb23).2 5
         have f6 := (HRS2.out w3 hb23).2 6
         clear ht3 hb3 HBA))
    have HG : Hid (w3.grownBy (putKe w3 w.heap.size x1) (some w.heap.size)) := putKe_grow w3 w.heap.size x1
    have HBF : Hid (Below w.heap.size w (putKe w3 w.heap.size x1)) := HB3.out.trans (grow_below HG.out HB3.out.size (fun g e => by cases e; exact Nat.le_refl _))
    have HT : Hid (TreeAt P (putKe w3 w.heap.size x1) n3 p3 (rest1 ++ k :: lr)) := (HT3.out.grown HG.out (fun j h => h.2)).weak fun _ h => h.1
    go_wp2
    refine bodyPost_ret (v := .tuple #[x1.v, .pointer p3]) ?_ rfl ⟨_, p3, x1, rest1 ++ k :: lr, rfl, hk1, rfl, HT.out, HBF.out⟩
    simp only [results, hresCut]
    go_simp
end Go.Proofs.Ythfnbcicpcbgjaa
