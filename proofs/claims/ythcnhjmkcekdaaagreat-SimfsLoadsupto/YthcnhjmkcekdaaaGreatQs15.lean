import Derived.Test.YthcnhjmkcekdaaaGreatQs14
import Derived.Test.YthcnhjmkcekdaaaGreatQs01
import Derived.Test.YthcnhjmkcekdaaaGreatRows
import Derived.ProofKit
namespace Go.Proofs.YthcnhjmkcekdaaaGreat
open Go.RowKit Go.Maps Plain
set_option linter.unusedVariables false
set_option linter.unusedSimpArgs false
theorem min_eq (N A M m : Nat) (hA : A ≤ N) (hm : m = min M (N - A)) (ts : Array TypeId) (t : TypeId) (W : World) : (Builtin.min_ ts t #[.int .i64 (M : Int), .int .i64 ((N - A : Nat) : Int)]).run Tryz.prog W = .ok (.int .i64 (m : Int)) W := by
  rw [run_min_int2]
  have : (if ((N - A : Nat) : Int) < (M : Int) then ((N - A : Nat) : Int) else (M : Int)) = (m : Int) := by split <;> omega
  rw [this]
set_option maxHeartbeats 1000000 in
set_option maxRecDepth 1000000 in
theorem readOwn (d G g A M N vc m : Nat) (s : ByteArray) (W0 W1 : World) (X : List Nat) (Q : Ending → World → Prop)
    (HFD : Hid (Calls Tryz.prog 79 #[.pointer (some ⟨d, 0, none⟩), .string s] W0 fun e w' => e = .returned (.tuple #[.pointer (some ⟨G, 0, none⟩), .int .i64 0]) ∧ w' = W1))
    (g0 : W1.cell? ⟨G, 0, none⟩ = some (.slice (some ⟨g, 0, none⟩) N vc)) (q1 : N ≤ vc) (q2 : vc ≤ 2 ^ 63 - 1) (hA : A ≤ N) (hlt : A < vc) (hM : M ≤ 9223372036854775807) (hm : m ≤ N - A)
    (hmin : ∀ (ts : Array TypeId) (t : TypeId) (W : World), (Builtin.min_ ts t #[.int .i64 (M : Int), .int .i64 ((N - A : Nat) : Int)]).run Tryz.prog W = .ok (.int .i64 (m : Int)) W)
    (HCL : Hid (Calls Tryz.prog 74 #[.slice (some ⟨g, A, none⟩) m (vc - A)] W1 fun e w' => ∃ a n c, e = .returned (.slice a n c) ∧ Q (.returned (.tuple #[.slice a n c, .int .i64 0])) w')) :
    Calls Tryz.prog 58 #[.pointer (some ⟨d, 0, none⟩), .string s, .int .i64 (A : Int), .int .i64 (M : Int)] W0 Q := by
  obtain ⟨R, hR⟩ : ∃ R, N - A = R := ⟨_, rfl⟩
  rw [hR] at hmin hm
  have hNR : N = A + R := by omega
  subst hNR
  clear hR
  go_enter Tryz.func58, Tryz.ntmps58
  go_wp2_with fail
  refine HFD.out.mono ?_
  rintro e w2 ⟨rfl, rfl⟩
  go_wp2_with fail
  refine HCL.out.mono ?_
  rintro e w3 ⟨a3, n3, c3, rfl, hq⟩
  have HP : Hid (Q (.returned (.tuple #[.slice a3 n3 c3, .int .i64 0])) w3) := hq
  clear hq
  go_wp2
  exact HP.out
set_option maxHeartbeats 1000000 in
set_option maxRecDepth 1000000 in
theorem readEnd (d G A M : Nat) (va : Option Addr) (s : ByteArray) (W0 W1 : World) (Q : Ending → World → Prop)
    (HFD : Hid (Calls Tryz.prog 79 #[.pointer (some ⟨d, 0, none⟩), .string s] W0 fun e w' => e = .returned (.tuple #[.pointer (some ⟨G, 0, none⟩), .int .i64 0]) ∧ w' = W1))
    (hva : va = none ∨ ∃ g, va = some ⟨g, 0, none⟩) (h0 : va = none → A = 0) (g0 : W1.cell? ⟨G, 0, none⟩ = some (.slice va A A)) (q2 : A ≤ 2 ^ 63 - 1) (hM : M ≤ 9223372036854775807)
    (hmin : ∀ (ts : Array TypeId) (t : TypeId) (W : World), (Builtin.min_ ts t #[.int .i64 (M : Int), .int .i64 0]).run Tryz.prog W = .ok (.int .i64 0) W)
    (HCL : Hid (Calls Tryz.prog 74 #[.slice va 0 0] W1 fun e w' => ∃ a n c, e = .returned (.slice a n c) ∧ Q (.returned (.tuple #[.slice a n c, .int .i64 0])) w')) :
    Calls Tryz.prog 58 #[.pointer (some ⟨d, 0, none⟩), .string s, .int .i64 (A : Int), .int .i64 (M : Int)] W0 Q := by
  rcases hva with rfl | ⟨g, rfl⟩
  · obtain rfl := h0 rfl
    go_enter Tryz.func58, Tryz.ntmps58
    go_wp2_with fail
    refine HFD.out.mono ?_
    rintro e w2 ⟨rfl, rfl⟩
    go_wp2_with fail
    refine HCL.out.mono ?_
    rintro e w3 ⟨a3, n3, c3, rfl, hq⟩
    have HP : Hid (Q (.returned (.tuple #[.slice a3 n3 c3, .int .i64 0])) w3) := hq
    clear hq
    go_wp2
    exact HP.out
  · clear h0
    go_enter Tryz.func58, Tryz.ntmps58
    go_wp2_with fail
    refine HFD.out.mono ?_
    rintro e w2 ⟨rfl, rfl⟩
    go_wp2_with fail
    refine HCL.out.mono ?_
    rintro e w3 ⟨a3, n3, c3, rfl, hq⟩
    have HP : Hid (Q (.returned (.tuple #[.slice a3 n3 c3, .int .i64 0])) w3) := hq
    clear hq
    go_wp2
    exact HP.out
theorem readOk {S : Nat → Prop} {w w1 : World} {d n : Nat} {k : Dk} (h : St S w d k w1) (hk : k.Ok n) (s : ByteArray) (hs : s.size ≤ maxLen) (A M : Nat) (hM : M ≤ 9223372036854775807) (h0 : (fnd k.dead k.L s).2 = 0) (hA : A ≤ sizeK k s) :
    Calls Tryz.prog 58 #[.pointer (some ⟨d, 0, none⟩), .string s, .int .i64 (A : Int), .int .i64 (M : Int)] w1 (RdPost S d k w (rdB k s A M) w1) := by
  have HB1 : Below w1.heap.size w1 (w1.alloc (.cells #[.string s] 9)) := (Below.refl _ _).alloc (Nat.le_refl _) _
  have HS : St S w d k (w1.alloc (.cells #[.string s] 9)) := h.below HB1
  have HFD := findSt h s hs
  obtain ⟨G, hl, hfe⟩ := fnd_ok h0
  rw [hfe] at HFD
  have hG : k.live G := hk.refs _ (look_mem hl)
  obtain ⟨vs, rs, g0, hown⟩ := HS.fown hG
  have HX : rdB k s A M = ((k.file G).seen.drop A).take M := by unfold rdB; rw [hl]; rfl
  have hsz : sizeK k s = (k.file G).seen.length := by unfold sizeK; rw [hl]; rfl
  have hbd : (k.file G).seen.length ≤ 70368744177664 := by
    have h1 := (hk.fok G hG).1
    have h2 := h1.len (k.file G).chg.length
    rw [List.take_length, ← h1.eq] at h2
    exact h2
  rw [HX]
  rw [hsz] at hA
  obtain ⟨va, N, vc, rfl⟩ := isSliceO hown
  have hlen := own_len hown
  obtain ⟨q1, q2⟩ := own_cap hown
  rw [hlen] at hA hbd
  have hXl : (((k.file G).seen.drop A).take M).length ≤ 140737488355328 := by rw [List.length_take, List.length_drop]; omega
  have hcl : ∀ v, BytesAt (w1.alloc (.cells #[.string s] 9)) v (((k.file G).seen.drop A).take M) → Calls Tryz.prog 74 #[v] (w1.alloc (.cells #[.string s] 9)) fun e w' => ∃ a n c, e = .returned (.slice a n c) ∧ RdPost S d k w (((k.file G).seen.drop A).take M) w1 (.returned (.tuple #[.slice a n c, .int .i64 0])) w' := fun v hv => by
    refine (cloneOf v _ _ hv hXl).mono ?_
    rintro e w3 ⟨v3, r3, rfl, ho3, hb3, hr3⟩
    obtain ⟨a3, n3, c3, rfl⟩ := isSliceO ho3
    have := HB1.size
    exact ⟨a3, n3, c3, rfl, a3, n3, c3, r3, rfl, ho3, fun g e => by have := hr3 g e; omega, below_on HB1 hb3, HS.below hb3⟩
  have hva : va = none ∧ N = 0 ∧ vc = 0 ∨ ∃ g, va = some ⟨g, 0, none⟩ := by
    rcases hown.2 with ⟨e, _⟩ | ⟨g, _, _, e, _⟩
    · injection e with e1 e2 e3
      exact .inl ⟨e1, e2, e3⟩
    · injection e with e1 e2 e3
      exact .inr ⟨g, e1⟩
  have hz : ∀ (ts : Array TypeId) (t : TypeId) (W : World), (Builtin.min_ ts t #[.int .i64 (M : Int), .int .i64 0]).run Tryz.prog W = .ok (.int .i64 0) W := fun ts t W => by
    rw [run_min_int2]
    have : (if (0 : Int) < (M : Int) then (0 : Int) else (M : Int)) = 0 := by split <;> omega
    rw [this]
  rcases hva with ⟨rfl, rfl, rfl⟩ | ⟨g, rfl⟩
  · obtain rfl : A = 0 := by omega
    refine readEnd d G 0 M none s w1 _ _ HFD (.inl rfl) (fun _ => rfl) g0 (by omega) hM hz (hcl _ ?_)
    have : (k.file G).seen = [] := List.length_eq_zero_iff.mp hlen
    rw [this]
    simp
    exact BytesAt.nil _
  · by_cases hlt : A < vc
    · exact readOwn d G g A M N vc (min M (N - A)) s w1 _ [] _ HFD g0 q1 q2 hA hlt hM (Nat.min_le_right _ _) (min_eq N A M _ hA rfl) (hcl _ (own_part hown hA _ rfl))
    · obtain rfl : vc = A := by omega
      obtain rfl : N = vc := by omega
      exact readEnd d G N M (some ⟨g, 0, none⟩) s w1 _ _ HFD (.inr ⟨g, rfl⟩) (by simp) g0 q2 hM hz (hcl _ (own_end hown (Nat.le_refl _)))
end Go.Proofs.YthcnhjmkcekdaaaGreat

namespace Go.Proofs.YthcnhjmkcekdaaaGreat
open Go.RowKit Go.Maps Plain
set_option linter.unusedVariables false
set_option linter.unusedSimpArgs false
def nmA : ByteArray := ⟨#[110, 97, 109, 101]⟩
def nmT : ByteArray := ⟨#[110, 97, 109, 101, 46, 116, 109, 112]⟩
def kA : Nm := [110, 97, 109, 101]
def kT : Nm := [110, 97, 109, 101, 46, 116, 109, 112]
def dk (L Ld : Dir) (chg : List DC) (u o : Int) (F : Nat → Fl) (lv : Nat → Prop) : Dk := ⟨L, Ld, chg, u, 1073741824, o, false, 0, false, F, lv⟩
def F0 : Nat → Fl := fun _ => ⟨[], [], []⟩
def lv1 (G : Nat) : Nat → Prop := fun x => False ∨ x = G
def lv2 (G H : Nat) : Nat → Prop := fun x => lv1 G x ∨ x = H
def s0 : Dk := Dk.fresh 1073741824
def s1 (G : Nat) : Dk := dk [(kA, G)] [] [DC.mk kA G] 0 1 (upd F0 G ⟨[], [], []⟩) (lv1 G)
def s2 (G : Nat) (o : List Nat) : Dk := dk [(kA, G)] [] [DC.mk kA G] (o.length : Int) 2 (upd (upd F0 G ⟨[], [], []⟩) G ⟨o, [], [FC.add o]⟩) (lv1 G)
def F3 (G : Nat) (o : List Nat) : Nat → Fl := upd (upd (upd F0 G ⟨[], [], []⟩) G ⟨o, [], [FC.add o]⟩) G ⟨o, o, []⟩
def s3 (G : Nat) (o : List Nat) : Dk := dk [(kA, G)] [] [DC.mk kA G] (o.length : Int) 3 (F3 G o) (lv1 G)
def s4 (G : Nat) (o : List Nat) (H : Nat) : Dk := dk [(kA, G), (kT, H)] [] [DC.mk kA G, DC.mk kT H] (o.length : Int) 4 (upd (F3 G o) H ⟨[], [], []⟩) (lv2 G H)
def s5 (G : Nat) (o : List Nat) (H : Nat) (f : List Nat) : Dk := dk [(kA, G), (kT, H)] [] [DC.mk kA G, DC.mk kT H] ((o.length : Int) + f.length) 5 (upd (upd (F3 G o) H ⟨[], [], []⟩) H ⟨f, [], [FC.add f]⟩) (lv2 G H)
def F6 (G : Nat) (o : List Nat) (H : Nat) (f : List Nat) : Nat → Fl := upd (upd (upd (F3 G o) H ⟨[], [], []⟩) H ⟨f, [], [FC.add f]⟩) H ⟨f, f, []⟩
def s6 (G : Nat) (o : List Nat) (H : Nat) (f : List Nat) : Dk := dk [(kA, G), (kT, H)] [] [DC.mk kA G, DC.mk kT H] ((o.length : Int) + f.length) 6 (F6 G o H f) (lv2 G H)
def s7 (G : Nat) (o : List Nat) (H : Nat) (f : List Nat) : Dk := dk [(kA, G), (kT, H)] [(kA, G), (kT, H)] [] ((o.length : Int) + f.length) 7 (F6 G o H f) (lv2 G H)
def s8 (G : Nat) (o : List Nat) (H : Nat) (f : List Nat) : Dk := dk [(kA, H)] [(kA, G), (kT, H)] [DC.mv kT kA] (f.length : Int) 8 (F6 G o H f) (lv2 G H)
def s9 (G : Nat) (o : List Nat) (H : Nat) (f : List Nat) : Dk := dk [(kA, H)] [(kA, H)] [] (f.length : Int) 9 (F6 G o H f) (lv2 G H)
theorem t1 (G : Nat) : createK s0 nmA G = (0, s1 G) := by rfl
theorem F3G (G : Nat) (o : List Nat) : F3 G o G = ⟨o, o, []⟩ := upd_same _ _ _
theorem t2 (G : Nat) (o : List Nat) (h : o.length ≤ 1000) : appendK (s1 G) nmA o = (0, s2 G o) := by
  have e1 : (fnd (s1 G).dead (s1 G).L nmA).2 = 0 := by rfl
  have e2 : look (s1 G).L nmA.data.toList = some G := by rfl
  have e3 : (s1 G).file G = ⟨[], [], []⟩ := upd_same _ _ _
  have e4 : (s1 G).can = true := by rfl
  unfold appendK
  rw [if_pos e1, if_neg (by show ¬ (0 < o.length ∧ (1073741824 : Int) - 0 < o.length); omega), e2]
  simp only [e3, e4, if_true, Fl.add]
  show (0, dk _ _ _ (0 + (o.length : Int)) _ _ _) = _
  rw [Int.zero_add]
  rfl
theorem t3 (G : Nat) (o : List Nat) : syncK (s2 G o) nmA = (0, s3 G o) := by
  have e1 : (fnd (s2 G o).dead (s2 G o).L nmA).2 = 0 := by rfl
  have e2 : look (s2 G o).L nmA.data.toList = some G := by rfl
  have e3 : (s2 G o).file G = ⟨o, [], [FC.add o]⟩ := upd_same _ _ _
  have e4 : (s2 G o).can = true := by rfl
  unfold syncK
  rw [if_pos e1, e2]
  simp only [e3, e4, if_true]
  rfl
theorem t4 (G H : Nat) (o : List Nat) : createK (s3 G o) nmT H = (0, s4 G o H) := by rfl
theorem t5 (G H : Nat) (o f : List Nat) (h : o.length ≤ 1000) (h2 : f.length ≤ 1000) : appendK (s4 G o H) nmT f = (0, s5 G o H f) := by
  have e1 : (fnd (s4 G o H).dead (s4 G o H).L nmT).2 = 0 := by rfl
  have e2 : look (s4 G o H).L nmT.data.toList = some H := by rfl
  have e3 : (s4 G o H).file H = ⟨[], [], []⟩ := upd_same _ _ _
  have e4 : (s4 G o H).can = true := by rfl
  unfold appendK
  rw [if_pos e1, if_neg (by show ¬ (0 < f.length ∧ (1073741824 : Int) - (o.length : Int) < f.length); omega), e2]
  simp only [e3, e4, if_true, Fl.add]
  rfl
theorem t6 (G H : Nat) (o f : List Nat) : syncK (s5 G o H f) nmT = (0, s6 G o H f) := by
  have e1 : (fnd (s5 G o H f).dead (s5 G o H f).L nmT).2 = 0 := by rfl
  have e2 : look (s5 G o H f).L nmT.data.toList = some H := by rfl
  have e3 : (s5 G o H f).file H = ⟨f, [], [FC.add f]⟩ := upd_same _ _ _
  have e4 : (s5 G o H f).can = true := by rfl
  unfold syncK
  rw [if_pos e1, e2]
  simp only [e3, e4, if_true]
  rfl
theorem t7 (G H : Nat) (o f : List Nat) : syncDirK (s6 G o H f) = (0, s7 G o H f) := by rfl
theorem F6H (G H : Nat) (o f : List Nat) : F6 G o H f H = ⟨f, f, []⟩ := upd_same _ _ _
theorem F6G (G H : Nat) (o f : List Nat) (h : G ≠ H) : F6 G o H f G = ⟨o, o, []⟩ := by
  unfold F6
  rw [upd_other _ _ _ _ h, upd_other _ _ _ _ h, upd_other _ _ _ _ h, F3G]
theorem t9 (G H : Nat) (o f : List Nat) : syncDirK (s8 G o H f) = (0, s9 G o H f) := by rfl
end Go.Proofs.YthcnhjmkcekdaaaGreat

namespace Go.Proofs.YthcnhjmkcekdaaaGreat
open Go.RowKit Go.Maps Plain
set_option linter.unusedVariables false
set_option linter.unusedSimpArgs false
theorem szA : nmA.size ≤ maxLen := by unfold maxLen; decide
theorem szT : nmT.size ≤ maxLen := by unfold maxLen; decide
theorem d1 (G : Nat) : (s1 G).Dok 1 := by have := create_dok (G := G) (fresh_dok 1073741824) szA (by omega); rwa [show createK (Dk.fresh 1073741824) nmA G = (0, s1 G) from t1 G] at this
theorem u1 (G : Nat) : (s1 G).Uok := ⟨by simp [s1, dk], by simp [s1, dk], fun p hp => by
  simp only [s1, dk, List.mem_singleton] at hp
  subst hp
  show (((upd F0 G ⟨[], [], []⟩ G).seen.length : Nat) : Int) ≤ 0
  rw [upd_same]; simp⟩
theorem d2 (G : Nat) (o : List Nat) (h : o.length ≤ 1000) : (s2 G o).Dok 2 := by have := append_dok (s := nmA) (b := o) (d1 G) (u1 G) (by omega); rwa [t2 G o h] at this
theorem d3 (G : Nat) (o : List Nat) (h : o.length ≤ 1000) : (s3 G o).Dok 3 := by have := sync_dok (s := nmA) (d2 G o h); rwa [t3] at this
theorem d4 (G H : Nat) (o : List Nat) (h : o.length ≤ 1000) : (s4 G o H).Dok 4 := by have := create_dok (G := H) (d3 G o h) szT (by omega); rwa [t4] at this
theorem u4 (G H : Nat) (o : List Nat) (h : o.length ≤ 1000) (hne : G ≠ H) : (s4 G o H).Uok := ⟨by simp [s4, dk]; omega, by simp [s4, dk], fun p hp => by
  simp only [s4, dk, List.mem_cons, List.not_mem_nil, or_false] at hp
  rcases hp with rfl | rfl
  · show (((upd (F3 G o) H ⟨[], [], []⟩ G).seen.length : Nat) : Int) ≤ (o.length : Int)
    rw [upd_other _ _ _ _ hne, F3G]; exact Int.le_refl _
  · show (((upd (F3 G o) H ⟨[], [], []⟩ H).seen.length : Nat) : Int) ≤ (o.length : Int)
    rw [upd_same]; simp⟩
theorem d5 (G H : Nat) (o f : List Nat) (h : o.length ≤ 1000) (h2 : f.length ≤ 1000) (hne : G ≠ H) : (s5 G o H f).Dok 5 := by have := append_dok (s := nmT) (b := f) (d4 G H o h) (u4 G H o h hne) (by omega); rwa [t5 G H o f h h2] at this
theorem nms2 (G H : Nat) : nms [(kA, G), (kT, H)] = [kA, kT] := srt_of (List.Perm.refl _) (by simp [kA, kT]; decide)
theorem nms1 (H : Nat) : nms [(kA, H)] = [kA] := srt_of (List.Perm.refl _) (by simp)
theorem lf_still (ps : List Int) (x : List Nat) : lf ps ⟨x, x, []⟩ = (x, ps.tail) := by
  unfold lf lfB
  simp [fst]
theorem im2 (G H : Nat) (o f : List Nat) (hne : G ≠ H) (ps : List Int) : imgL [(kA, G), (kT, H)] (fun ps g => (lf ps (F6 G o H f g)).1) (fun ps g => (lf ps (F6 G o H f g)).2) ps (nms [(kA, G), (kT, H)]) = [(kA, o), (kT, f)] := by
  rw [nms2]
  have e1 : fileOf [(kA, G), (kT, H)] kA = G := rfl
  have e2 : fileOf [(kA, G), (kT, H)] kT = H := rfl
  simp only [imgL, e1, e2, F6G _ _ _ _ hne, F6H, lf_still]
theorem im1 (G H : Nat) (o f : List Nat) (ps : List Int) : imgL [(kA, H)] (fun ps g => (lf ps (F6 G o H f g)).1) (fun ps g => (lf ps (F6 G o H f g)).2) ps (nms [(kA, H)]) = [(kA, f)] := by
  rw [nms1]
  have e1 : fileOf [(kA, H)] kA = H := rfl
  simp only [imgL, e1, F6H, lf_still]
/-- A disk in memory that was not there in world W. -/
def Dsk (W : World) (d : Nat) (k : Dk) (w1 : World) : Prop := Below W.heap.size W w1 ∧ ∃ S, DiskAt w1 d k S ∧ ∀ x, S x → W.heap.size ≤ x
theorem Dsk.later {W w1 w2 : World} {d : Nat} {k : Dk} (h : Dsk W d k w1) (hb : Below w1.heap.size w1 w2) : Dsk W d k w2 := by
  obtain ⟨h1, S, h2, h3⟩ := h
  exact ⟨h1.trans (hb.mono h1.size), S, h2.later hb, h3⟩
theorem Dsk.liveLt {W w1 : World} {d G : Nat} {k : Dk} (h : Dsk W d k w1) (hG : k.live G) : G < w1.heap.size := by
  obtain ⟨_, S, ⟨ms, md, vc, rc, Sf, hm, _⟩, _⟩ := h
  exact (hm.files G hG).self
theorem Dsk.op {W w1 w2 : World} {d : Nat} {S : Nat → Prop} {r : Int × Dk} {e : Ending} (h1 : Below W.heap.size W w1) (h3 : ∀ x, S x → W.heap.size ≤ x) (h : OpPost d r S w1 e w2) : e = .returned (.int .i64 r.1) ∧ Dsk W d r.2 w2 := by
  obtain ⟨rfl, h4, h5⟩ := h
  refine ⟨rfl, h1.trans (h5.below h1.size h3), _, h4, fun x hx => ?_⟩
  rcases hx with hx | hx
  · exact h3 x hx
  · have := h1.size; omega
abbrev DPost (W : World) (d : Nat) (r : Int × Dk) : Ending → World → Prop := fun e w2 => e = .returned (.int .i64 r.1) ∧ Dsk W d r.2 w2
theorem syncD {W w1 : World} {d n : Nat} {k : Dk} {s : ByteArray} (h : Dsk W d k w1) (hs : s.size ≤ maxLen) (hk : k.Dok n) (hn : n ≤ 4398046511103) : Calls Tryz.prog 45 #[.pointer (some ⟨d, 0, none⟩), .string s] w1 (DPost W d (syncK k s)) := by
  obtain ⟨h1, S, h2, h3⟩ := h
  refine (syncOf d k n S s hs w1 h2 hk.ok hn).mono ?_
  rintro e w2 hp
  exact Dsk.op h1 h3 hp
set_option maxRecDepth 1000000 in
theorem newOf (q : Int) (hq1 : 0 ≤ q) (hq2 : q ≤ 1073741824) (w : World) : Calls Tryz.prog 5 #[.int .i64 q] w fun e w' => e = .returned (.tuple #[.pointer (some ⟨w.heap.size, 0, none⟩), .int .i64 0]) ∧ Dsk w w.heap.size (Dk.fresh q) w' := by
  have HL : Hid (Calls Tryz.prog 10 #[.slice none 0 0, .int .i64 q] w fun e w' => e = .returned (.tuple #[.pointer (some ⟨w.heap.size, 0, none⟩), .int .i64 0]) ∧ Dsk w w.heap.size (Dk.fresh q) w') := by
    refine (loadNil q (by omega) (by omega) w).mono ?_
    rintro e w' (⟨h, _⟩ | ⟨_, rfl, h1, h2⟩)
    · simp [qB, hq1, hq2] at h
    · refine ⟨rfl, ((Below.refl _ w).alloc (Nat.le_refl _) _).trans (h2.below (by simp) (fun x hx => by omega)), _, h1, fun x hx => ?_⟩
      rcases hx with hx | hx
      · omega
      · simp at hx; omega
  go_enter Tryz.func5, Tryz.ntmps5
  go_wp2_with fail
  refine HL.out.mono ?_
  rintro e w1 ⟨rfl, h1⟩
  have HP : Hid (Dsk w w.heap.size (Dk.fresh q) w1) := h1
  clear h1
  go_wp2
  go_ret2
  exact ⟨rfl, HP.out⟩
end Go.Proofs.YthcnhjmkcekdaaaGreat


namespace Go.Proofs.YthcnhjmkcekdaaaGreat
open Go.RowKit Plain
set_option linter.unusedVariables false
def marks (k : Nat) : List Nat := (List.range k).map (200 + ·)
theorem marks_succ (k : Nat) : marks (k + 1) = marks k ++ [200 + k] := by simp [marks, List.range_succ]
theorem marks_len (k : Nat) : (marks k).length = k := by simp [marks]
theorem marks_get (k j : Nat) (h : j < k) : (marks k).getD j 0 = 200 + j := by simp [marks, h]
theorem wrap_mark (k : Nat) (h : k < 8) : IntKind.u8.wrap (200 + (k : Int)) = ((200 + k : Nat) : Int) := by
  have : ∀ j, j < 8 → IntKind.u8.wrap (200 + ((j : Nat) : Int)) = ((200 + j : Nat) : Int) := by decide
  exact this k h
theorem roomy (vb : Value) (l : List Nat) (w : World) (hb : BytesAt w vb l) (hl : l.length ≤ 140737488351232) :
    Calls Tryz.prog 41 #[vb] w fun e w' => ∃ g cap, e = .returned (.slice (some ⟨g, 0, none⟩) l.length cap) ∧ Own w' (.slice (some ⟨g, 0, none⟩) (l.length + 8) cap) (l ++ marks 8) (some g) ∧ w.heap.size ≤ g ∧ Below w.heap.size w w' := by
  have HB : Hid (BytesAt w vb l) := hb
  obtain ⟨a0, cap0, rfl, _⟩ := hb
  go_enter Tryz.func41, Tryz.ntmps41
  go_wp2_with (at_builtin; refine wpList_append_row _ rfl _ _ 34 34 rfl Tryz.underlying34 _ _ [] l (some w.heap.size) rfl rfl ?hOwn ?hByte ?hSrc ?hLen ?_)
  case hOwn => exact Own.empty w 5
  case hByte => exact HB.out.byte
  case hSrc => exact src_of Tryz.underlying34 (HB.out.later ((Below.refl _ _).alloc (Nat.le_refl _) _))
  case hLen => simp; omega
  intro v3 w3 r3 ho3 hg3 hr3 hn3
  have HB3 : Hid (Below w.heap.size w w3) := grow_below (grow_trans (World.grownBy_alloc w _ none) hg3 (.inr (.inr ⟨_, rfl, Nat.le_refl _⟩))) (Nat.le_refl _) (by simp)
  obtain ⟨q3, HO3, HQ3⟩ : ∃ q3, Hid (Own w3 v3 (l ++ marks 0) (some q3)) ∧ Hid (w.heap.size ≤ q3) := by
    have e : l ++ marks 0 = l := by simp [marks]
    rw [e]
    rcases hr3 with rfl | rfl
    · exact ⟨_, ho3, Nat.le_refl _⟩
    · exact ⟨_, ho3, by unfold Hid; simp⟩
  clear ho3 hg3 hr3 hn3
  go_wp2
  go_loopw [3, 4] (fun b i wr => ∃ (k q : Nat), k ≤ 8 ∧ i = .int .i64 k ∧ Own wr b (l ++ marks k) (some q) ∧ w.heap.size ≤ q ∧ Below w.heap.size w wr) (fun _ i _ => 8 - (intOf i).toNat)
  case atStart => exact ⟨0, q3, by omega, rfl, HO3.out, HQ3.out, HB3.out⟩
  case round =>
    obtain ⟨k, q, hk, rfl, ho, hq, hbl⟩ := hrel
    have HBL : Hid (Below w.heap.size w wr) := hbl
    have HQ : Hid (w.heap.size ≤ q) := hq
    clear HB3 HO3 HQ3 hbl hq
    by_cases hlt : k < 8
    · have HO : Hid (Own wr u3 (l ++ marks k) (some q)) := ho
      have hwm := wrap_mark k hlt
      clear ho
      go_wp2_with (at_builtin; refine wpList_append_row _ rfl _ _ 34 34 rfl Tryz.underlying34 _ _ (l ++ marks k) [200 + k] (some q) rfl rfl ?hOwn ?hByte ?hSrc ?hLen ?_)
      case hOwn => exact HO.out.later ((Below.refl _ _).alloc (Nat.le_refl _) _)
      case hByte => simp; omega
      case hSrc => exact src_one wr (200 + k) 34 5 Tryz.underlying34
      case hLen => simp [marks_len]; omega
      intro v' w1 r' ho' hg' hr' hn'
      have HB1 : Hid (Below w.heap.size w w1) := (HBL.out.alloc HBL.out.size _).trans (grow_below hg' (by have := HBL.out.size; simp; omega) (by intro g hg; simp at hg; subst hg; exact HQ.out))
      obtain ⟨q1, HO1, HQ1⟩ : ∃ q1, Hid (Own w1 v' (l ++ marks (k + 1)) (some q1)) ∧ Hid (w.heap.size ≤ q1) := by
        rw [marks_succ, ← List.append_assoc]
        have := HBL.out.size
        rcases hr' with rfl | rfl
        · exact ⟨_, by unfold Hid; simpa using ho', HQ.out⟩
        · refine ⟨_, by unfold Hid; simpa using ho', ?_⟩
          unfold Hid
          first | omega | (simp; omega)
      clear ho' hg' hr' hn' hwm
      go_wp2
      go_roundw
      case rel => exact ⟨k + 1, q1, by omega, by go_num, HO1.out, HQ1.out, HB1.out⟩
      case measure => simp [intOf]; omega
    · obtain rfl : k = 8 := by omega
      obtain ⟨cap, rfl, h1, h2⟩ := ho.shape
      have e : (l ++ marks 8).length = l.length + 8 := by simp [marks_len]
      have HO : Hid (Own wr (.slice (some ⟨q, 0, none⟩) (l.length + 8) cap) (l ++ marks 8) (some q)) := by
        have := ho
        rw [e] at this
        exact this
      rw [e] at h1
      unfold maxLen at h2
      clear ho
      rw [e]
      clear e
      go_wp2
      go_ret
      exact ⟨q, cap, rfl, HO.out, HQ.out, HBL.out⟩
theorem kept (g cap : Nat) (l m : List Nat) (vb : Value) (w : World) (hb : BytesAt w vb l) (hn : m.length = l.length) (ho : Own w (.slice (some ⟨g, 0, none⟩) (l.length + 8) cap) (m ++ marks 8) (some g)) :
    Calls Tryz.prog 43 #[.slice (some ⟨g, 0, none⟩) l.length cap, vb] w fun e w' => e = .returned (.bool (decide (m = l))) ∧ ∃ n, w' = w.drewN n := by
  have HB : Hid (BytesAt w vb l) := hb
  obtain ⟨a0, cap0, rfl, h0, h00, _⟩ := hb
  have HX : Hid (BytesAt w (.slice (some ⟨g, 0, none⟩) l.length cap) m) := by
    have := (ho.bytes.take m.length (by simp))
    rw [List.take_left, hn] at this
    exact this
  obtain ⟨hby, hr⟩ := ho
  rcases hr with ⟨e, _⟩ | ⟨g', cap', e, e2, hg, h1, h2, h3, h4, h5⟩
  · simp at e
  simp at e; subst e
  simp only [Value.slice.injEq, true_and] at e2
  obtain ⟨-, rfl⟩ := e2
  have HC : Hid (∀ k, k < 8 → w.cell? ⟨g, l.length + k, none⟩ = some (.int .u8 ((200 + k : Nat) : Int))) := fun k hk => by
    have := h5 (l.length + k) (by simp [marks_len]; omega)
    rw [getD_right _ _ (by omega), hn, Nat.add_sub_cancel_left, marks_get 8 k hk] at this
    exact this
  have hc8 : l.length + 8 ≤ cap := by simp [marks_len] at h1; omega
  unfold maxLen at h2
  clear hby h3 h4 h5 h1 hn h0 h00
  go_enter Tryz.func43, Tryz.ntmps43
  go_wp2
  go_loopw [6] (fun i w' => ∃ k n : Nat, w' = w.drewN n ∧ k ≤ 8 ∧ i = .int .i64 k) (fun i _ => 8 - (intOf i).toNat)
  case atStart => exact ⟨0, 0, rfl, by omega, rfl⟩
  case round =>
    obtain ⟨k, n, rfl, hk, rfl⟩ := hrel
    by_cases hlt : k < 8
    · have hcell := HC.out k hlt
      have hwm := wrap_mark k hlt
      go_wp2
      go_roundw
      case rel => exact ⟨k + 1, _, rfl, by omega, by go_num⟩
      case measure => simp [intOf]; omega
    · go_wp2_with fail
      refine (sameBytes _ _ m l _ (HX.out.drewN n) (HB.out.drewN n)).mono ?_
      rintro e w1 ⟨rfl, n1, rfl⟩
      go_wp2
      go_ret
      exact ⟨rfl, _, rfl⟩
end Go.Proofs.YthcnhjmkcekdaaaGreat

namespace Go.Proofs.YthcnhjmkcekdaaaGreat
open Go.RowKit Go.Maps Plain
set_option linter.unusedVariables false
set_option linter.unusedSimpArgs false
/-- What a step's change does. -/
def chK (k : Dk) (kd : Int) (nm to : ByteArray) (n : Int) (l : List Nat) (G : Nat) : Int × Dk :=
  if kd = 1 then createK k nm G else if kd = 2 then appendK k nm l else if kd = 3 then truncK k nm n else if kd = 4 then syncK k nm else if kd = 5 then syncDirK k else if kd = 6 then renameK k nm to else removeK k nm
end Go.Proofs.YthcnhjmkcekdaaaGreat

namespace Go.Proofs.YthcnhjmkcekdaaaGreat
open Go.RowKit Go.Maps Plain
set_option linter.unusedVariables false
set_option linter.unusedSimpArgs false
structure Ent (w : World) (g j : Nat) (k : Nm) (b : List Nat) (a : Option Addr) (n c : Nat) : Prop where
  name : w.cell? ⟨g, j * 2, none⟩ = some (.string (str k))
  data : w.cell? ⟨g, j * 2 + 1, none⟩ = some (.slice a n c)
  row : BytesAt w (.slice a n c) b
theorem Ent.later {w w' : World} {g j n c : Nat} {k : Nm} {b : List Nat} {a : Option Addr} (h : Ent w g j k b a n c) (hb : Below w.heap.size w w') : Ent w' g j k b a n c :=
  ⟨by rw [hb.cell (cell_lt h.name)]; exact h.name, by rw [hb.cell (cell_lt h.data)]; exact h.data, h.row.later hb⟩
theorem below_drewN' (w : World) (n : Nat) : Below w.heap.size w (w.drewN n) := ⟨rfl, rfl, rfl, Nat.le_refl _, fun _ _ => rfl⟩
theorem sameB (va vb : Value) (la lb : List Nat) (w : World) (ha : BytesAt w va la) (hb : BytesAt w vb lb) : Calls Tryz.prog 39 #[va, vb] w fun e w' => e = .returned (.bool (decide (la = lb))) ∧ Below w.heap.size w w' := by
  refine (sameBytes va vb la lb w ha hb).mono ?_
  rintro e w' ⟨rfl, n, rfl⟩
  exact ⟨rfl, below_drewN' w n⟩
end Go.Proofs.YthcnhjmkcekdaaaGreat

namespace Go.Proofs.YthcnhjmkcekdaaaGreat
open Go.RowKit Go.Maps Plain
set_option linter.unusedVariables false
set_option linter.unusedSimpArgs false
theorem Own.apart {w w' : World} {S : Nat → Prop} {v : Value} {l : List Nat} {g : Nat} (h : Own w v l (some g)) (hc : Chg S w w') (hg : ¬ S g) : Own w' v l (some g) :=
  h.of_block hc.size (fun g' e => by simp at e; subst e; exact hc.block _ h.lt hg)
theorem BytesAt.head {w : World} {g cap n : Nat} {l m : List Nat} (h : Own w (.slice (some ⟨g, 0, none⟩) n cap) (l ++ m) (some g)) : BytesAt w (.slice (some ⟨g, 0, none⟩) l.length cap) l := by
  have := h.bytes.take l.length (by simp)
  rwa [List.take_left'] at this
  rfl
end Go.Proofs.YthcnhjmkcekdaaaGreat
