import Derived.Test.YtgffncbmchimdaaShE
import Derived.Test.YtgffncbmchimdaaSfW
/-! The law on Rename: the disks that it goes through. -/
namespace Go.Proofs.Ytgffncbmchimdaa
open Go.RowKit Go.Maps Plain
set_option linter.unusedVariables false
set_option linter.unusedSimpArgs false

def nmA : ByteArray := ⟨#[110, 97, 109, 101]⟩
def nmT : ByteArray := ⟨#[110, 97, 109, 101, 46, 116, 109, 112]⟩
def kA : Nm := [110, 97, 109, 101]
def kT : Nm := [110, 97, 109, 101, 46, 116, 109, 112]
def dk (L Ld : Dir) (chg : List DC) (u o : Int) (F : Nat → Fl) (lv : Nat → Prop) : Dk := ⟨L, Ld, chg, u, 1073741824, o, false, 0, false, F, lv⟩
def F0 : Nat → Fl := fun _ => ⟨[], [], []⟩
def lv1 (G : Nat) : Nat → Prop := fun x => False ∨ x = G
def lv2 (G H : Nat) : Nat → Prop := fun x => lv1 G x ∨ x = H
def s0 : Dk := Dk.fresh 1073741824
def s1 (G : Nat) : Dk := dk [(kA, G)] [] [DC.mk kA G] 0 1 (upd F0 G ⟨[], [], []⟩) (lv1 G)
def s2 (G : Nat) (o : List Nat) : Dk := dk [(kA, G)] [] [DC.mk kA G] (o.length : Int) 2 (upd (upd F0 G ⟨[], [], []⟩) G ⟨o, [], [FC.add o]⟩) (lv1 G)
def F3 (G : Nat) (o : List Nat) : Nat → Fl := upd (upd (upd F0 G ⟨[], [], []⟩) G ⟨o, [], [FC.add o]⟩) G ⟨o, o, []⟩
def s3 (G : Nat) (o : List Nat) : Dk := dk [(kA, G)] [] [DC.mk kA G] (o.length : Int) 3 (F3 G o) (lv1 G)
def s4 (G : Nat) (o : List Nat) (H : Nat) : Dk := dk [(kA, G), (kT, H)] [] [DC.mk kA G, DC.mk kT H] (o.length : Int) 4 (upd (F3 G o) H ⟨[], [], []⟩) (lv2 G H)
def s5 (G : Nat) (o : List Nat) (H : Nat) (f : List Nat) : Dk := dk [(kA, G), (kT, H)] [] [DC.mk kA G, DC.mk kT H] ((o.length : Int) + f.length) 5 (upd (upd (F3 G o) H ⟨[], [], []⟩) H ⟨f, [], [FC.add f]⟩) (lv2 G H)
def F6 (G : Nat) (o : List Nat) (H : Nat) (f : List Nat) : Nat → Fl := upd (upd (upd (F3 G o) H ⟨[], [], []⟩) H ⟨f, [], [FC.add f]⟩) H ⟨f, f, []⟩
def s6 (G : Nat) (o : List Nat) (H : Nat) (f : List Nat) : Dk := dk [(kA, G), (kT, H)] [] [DC.mk kA G, DC.mk kT H] ((o.length : Int) + f.length) 6 (F6 G o H f) (lv2 G H)
def s7 (G : Nat) (o : List Nat) (H : Nat) (f : List Nat) : Dk := dk [(kA, G), (kT, H)] [(kA, G), (kT, H)] [] ((o.length : Int) + f.length) 7 (F6 G o H f) (lv2 G H)
def s8 (G : Nat) (o : List Nat) (H : Nat) (f : List Nat) : Dk := dk [(kA, H)] [(kA, G), (kT, H)] [DC.mv kT kA] (f.length : Int) 8 (F6 G o H f) (lv2 G H)
def s9 (G : Nat) (o : List Nat) (H : Nat) (f : List Nat) : Dk := dk [(kA, H)] [(kA, H)] [] (f.length : Int) 9 (F6 G o H f) (lv2 G H)

theorem t1 (G : Nat) : createK s0 nmA G = (0, s1 G) := by rfl
theorem F3G (G : Nat) (o : List Nat) : F3 G o G = ⟨o, o, []⟩ := upd_same _ _ _
theorem t2 (G : Nat) (o : List Nat) (h : o.length ≤ 1000) : appendK (s1 G) nmA o = (0, s2 G o) := by
  have e1 : (fnd (s1 G).dead (s1 G).L nmA).2 = 0 := by rfl
  have e2 : look (s1 G).L nmA.data.toList = some G := by rfl
  have e3 : (s1 G).file G = ⟨[], [], []⟩ := upd_same _ _ _
  have e4 : (s1 G).can = true := by rfl
  unfold appendK
  rw [if_pos e1, if_neg (by show ¬ (0 < o.length ∧ (1073741824 : Int) - 0 < o.length); omega), e2]
  simp only [e3, e4, if_true, Fl.add]
  show (0, dk _ _ _ (0 + (o.length : Int)) _ _ _) = _
  rw [Int.zero_add]
  rfl
theorem t3 (G : Nat) (o : List Nat) : syncK (s2 G o) nmA = (0, s3 G o) := by
  have e1 : (fnd (s2 G o).dead (s2 G o).L nmA).2 = 0 := by rfl
  have e2 : look (s2 G o).L nmA.data.toList = some G := by rfl
  have e3 : (s2 G o).file G = ⟨o, [], [FC.add o]⟩ := upd_same _ _ _
  have e4 : (s2 G o).can = true := by rfl
  unfold syncK
  rw [if_pos e1, e2]
  simp only [e3, e4, if_true]
  rfl
theorem t4 (G H : Nat) (o : List Nat) : createK (s3 G o) nmT H = (0, s4 G o H) := by rfl
theorem t5 (G H : Nat) (o f : List Nat) (h : o.length ≤ 1000) (h2 : f.length ≤ 1000) : appendK (s4 G o H) nmT f = (0, s5 G o H f) := by
  have e1 : (fnd (s4 G o H).dead (s4 G o H).L nmT).2 = 0 := by rfl
  have e2 : look (s4 G o H).L nmT.data.toList = some H := by rfl
  have e3 : (s4 G o H).file H = ⟨[], [], []⟩ := upd_same _ _ _
  have e4 : (s4 G o H).can = true := by rfl
  unfold appendK
  rw [if_pos e1, if_neg (by show ¬ (0 < f.length ∧ (1073741824 : Int) - (o.length : Int) < f.length); omega), e2]
  simp only [e3, e4, if_true, Fl.add]
  rfl
theorem t6 (G H : Nat) (o f : List Nat) : syncK (s5 G o H f) nmT = (0, s6 G o H f) := by
  have e1 : (fnd (s5 G o H f).dead (s5 G o H f).L nmT).2 = 0 := by rfl
  have e2 : look (s5 G o H f).L nmT.data.toList = some H := by rfl
  have e3 : (s5 G o H f).file H = ⟨f, [], [FC.add f]⟩ := upd_same _ _ _
  have e4 : (s5 G o H f).can = true := by rfl
  unfold syncK
  rw [if_pos e1, e2]
  simp only [e3, e4, if_true]
  rfl
theorem t7 (G H : Nat) (o f : List Nat) : syncDirK (s6 G o H f) = (0, s7 G o H f) := by rfl
theorem F6H (G H : Nat) (o f : List Nat) : F6 G o H f H = ⟨f, f, []⟩ := upd_same _ _ _
theorem F6G (G H : Nat) (o f : List Nat) (h : G ≠ H) : F6 G o H f G = ⟨o, o, []⟩ := by
  unfold F6
  rw [upd_other _ _ _ _ h, upd_other _ _ _ _ h, upd_other _ _ _ _ h, F3G]
theorem t8 (G H : Nat) (o f : List Nat) (h : G ≠ H) : renameK (s7 G o H f) nmT nmA = (0, s8 G o H f) := by
  have e1 : rdy (s7 G o H f).dead [nmT, nmA] = 0 := by rfl
  have e2 : (fnd (s7 G o H f).dead (s7 G o H f).L nmT).2 = 0 := by rfl
  have e4 : (s7 G o H f).can = true := by rfl
  have e5 : (sizeK (s7 G o H f) nmA : Int) = (o.length : Int) := by
    have : sizeK (s7 G o H f) nmA = (F6 G o H f G).seen.length := by rfl
    rw [this, F6G G H o f h]
  unfold renameK
  rw [if_neg (by rw [e1]; simp), if_neg (by decide), if_pos e2, if_pos e4, e5]
  show (0, dk _ _ _ ((o.length : Int) + f.length - o.length) _ _ _) = _
  rw [show (o.length : Int) + f.length - o.length = f.length by omega]
  rfl
theorem t9 (G H : Nat) (o f : List Nat) : syncDirK (s8 G o H f) = (0, s9 G o H f) := by rfl
end Go.Proofs.Ytgffncbmchimdaa
