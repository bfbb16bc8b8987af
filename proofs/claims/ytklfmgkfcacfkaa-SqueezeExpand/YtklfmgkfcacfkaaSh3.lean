import Derived.Test.YtklfmgkfcacfkaaSh2
/-! More helpers of bytes: fill, turned, kept. -/
namespace Go.Proofs.Ytklfmgkfcacfkaa
open Go.RowKit Plain
set_option linter.unusedVariables false
set_option linter.unusedSimpArgs false

set_option maxHeartbeats 1000000 in
theorem fillAny (v : Value) (l : List Nat) (r : Option Nat) (c : Nat) (hc : c < 255) (w : World) (ho : Own w v l r) (hl : l.length ≤ 140737488351232) :
    Calls Try.prog 15 #[v, .int .u8 (c : Int)] w fun e w' => e = .returned (.tuple #[]) ∧ w.grownBy w' r := by
  obtain ⟨a, cap, rfl⟩ := ho.isSlice
  have HO : Hid (Own w (.slice a l.length cap) l r) := ho
  have hcap : l.length ≤ cap ∧ cap ≤ 9223372036854775807 := by
    rcases ho.2 with ⟨e, h1, _⟩ | ⟨g, cap', _, e, _, h1, h2, _⟩
    · injection e with _ e1 e2; subst h1; simp; omega
    · injection e with _ _ e2; unfold maxLen at h2; omega
  clear ho
  go_enter Try.func15, Try.ntmps15
  go_wp2
  go_loopw [4] (fun s wr => ∃ (k : Nat) (us : List Nat), s = .int .i64 k ∧ k ≤ l.length ∧ us.length = l.length ∧ Own wr (.slice a l.length cap) us r ∧ w.grownBy wr r) (fun s _ => l.length - (intOf s).toNat)
  case atStart => exact ⟨0, l, rfl, by omega, rfl, HO.out, below_grow (Below.refl _ _) _⟩
  case round =>
    obtain ⟨k, us, rfl, hk, hus, hown, hgr⟩ := hrel
    have HU : Hid (us.length = l.length) := hus
    have HK : Hid (Own wr (.slice a l.length cap) us r) := hown
    have HG : Hid (w.grownBy wr r) := hgr
    clear hown hgr hus
    by_cases hlt : k < l.length
    · obtain ⟨g, hrg, hag, hold⟩ := HK.out.get (j := k) (by rw [HU.out]; exact hlt)
      subst hrg hag
      have hfz := HK.out.fz (j := k) (by rw [HU.out]; exact hlt)
      have HN : Hid (Own (wr.setCell ⟨g, k, none⟩ (.int .u8 (c : Int))) (.slice (some ⟨g, 0, none⟩) l.length cap) (us.set k c) (some g)) := HK.out.set k c (by rw [HU.out]; exact hlt) (by omega)
      have HG2 : Hid (w.grownBy (wr.setCell ⟨g, k, none⟩ (.int .u8 (c : Int))) (some g)) := grow_trans HG.out (grow_setCells wr g k [.int .u8 (c : Int)]) (.inl rfl)
      have HU2 : Hid ((us.set k c).length = l.length) := by unfold Hid; rw [List.length_set]; exact HU.out
      generalize us.getD k 0 = z at hold
      go_wp2
      go_roundw
      case rel => exact ⟨k + 1, _, by go_num, by omega, HU2.out, HN.out, HG2.out⟩
      case measure => simp [intOf]; omega
    · obtain rfl : k = l.length := by omega
      clear HO hlt hk
      go_wp2
      go_loopw [0, 5] (fun s0 s5 wx => ∃ (k : Nat) (a' : Option Addr) (n' c' : Nat) (us' : List Nat) (r' : Option Nat), s5 = .int .i64 k ∧ k ≤ 64 ∧ s0 = .slice a' n' c' ∧ n' = l.length + k ∧ us'.length = n' ∧ Own wx (.slice a' n' c') us' r' ∧ (r' = r ∨ ∃ g, r' = some g ∧ w.heap.size ≤ g) ∧ w.grownBy wx r) (fun _ s _ => 64 - (intOf s).toNat)
      case atStart => exact ⟨0, a, l.length, cap, us, r, rfl, by omega, rfl, rfl, HU.out, HK.out, .inl rfl, HG.out⟩
      case round =>
        obtain ⟨k, a', n', c', us', r', rfl, hk, rfl, hn', hus', hown', hr', hgr'⟩ := hrel
        have HK' : Hid (Own wr (.slice a' n' c') us' r') := hown'
        have HG' : Hid (w.grownBy wr r) := hgr'
        have HR' : Hid (r' = r ∨ ∃ g, r' = some g ∧ w.heap.size ≤ g) := hr'
        have HU' : Hid (us'.length = n') := hus'
        have HN' : Hid (n' = l.length + k) := hn'
        clear HK HG HU hown' hgr' hr' hus' hn'
        by_cases hlt : k < 64
        · have e1 : ((c : Int) + 1) = ((c + 1 : Nat) : Int) := by omega
          have e2 : ((c : Int) + 1) % 256 = ((c + 1 : Nat) : Int) := by omega
          have hc1 : c + 1 < 256 := by omega
          generalize c + 1 = y at e1 e2 hc1
          go_wp2_with (at_builtin; refine wpList_append_row _ rfl _ _ 22 22 rfl Try.underlying22 _ _ us' [y] r' rfl rfl ?hOwn ?hByte ?hSrc ?hLen ?_)
          case hOwn => exact HK'.out.later ((Below.refl _ _).alloc (Nat.le_refl _) _)
          case hByte => first | exact hc1 | (intro z hz; rw [List.mem_singleton] at hz; omega)
          case hSrc => exact src_one wr y 22 5 Try.underlying22
          case hLen => have h1 := HU'.out; have h2 := HN'.out; simp; omega
          intro v' w3 r3 ho3 hg3 hr3 hn3
          obtain ⟨a3, c3, rfl⟩ := ho3.isSlice
          have hl3 : (us' ++ [y]).length = n' + 1 := by have := HU'.out; simp; omega
          rw [hl3] at ho3 ⊢
          have HO3 : Hid (Own w3 (.slice a3 (n' + 1) c3) (us' ++ [y]) r3) := ho3
          have HL3 : Hid ((us' ++ [y]).length = n' + 1) := hl3
          have HR3 : Hid (r3 = r ∨ ∃ g, r3 = some g ∧ w.heap.size ≤ g) := by
            have hs := HG'.out.size
            rcases hr3 with e | e
            · rcases HR'.out with h | h
              · exact .inl (e.trans h)
              · obtain ⟨g, h1, h2⟩ := h
                exact .inr ⟨g, e.trans h1, h2⟩
            · exact .inr ⟨_, e, Nat.le_succ_of_le hs⟩
          have HG3 : Hid (w.grownBy w3 r) := by
            refine grow_trans (grow_trans HG'.out (World.grownBy_alloc wr _ none) (.inr (.inl rfl))) hg3 ?_
            rcases HR'.out with h | h
            · exact .inl h
            · exact .inr (.inr h)
          generalize hnn : n' + 1 = n3 at HO3 HL3 ⊢
          clear ho3 hg3 hr3 hl3 hn3
          go_wp2
          go_roundw
          case rel => exact ⟨k + 1, a3, n3, c3, _, _, by go_num, by omega, rfl, by have := HN'.out; omega, HL3.out, HO3.out, HR3.out, HG3.out⟩
          case measure => simp [intOf]; omega
        · obtain rfl : k = 64 := by omega
          go_wp2
          go_end0
          exact ⟨rfl, HG'.out⟩

set_option maxHeartbeats 1000000 in
theorem turnedAny (vb : Value) (l : List Nat) (w : World) (hb : BytesAt w vb l) (hl : l.length ≤ 140737488351232) :
    Calls Try.prog 43 #[vb] w fun e w' => ∃ v r, e = .returned v ∧ Own w' v (turn l) r ∧ (∀ g, r = some g → w.heap.size ≤ g) ∧ Below w.heap.size w w' := by
  obtain ⟨a, capb, rfl, hlc, hcm, hby, hcells⟩ := hb
  unfold maxLen at hcm
  have HC : Hid (l ≠ [] → ∃ b off, a = some ⟨b, off, none⟩ ∧ ∀ j, j < l.length → w.cell? ⟨b, off + j, none⟩ = some (.int .u8 ((l.getD j 0 : Nat) : Int))) := hcells
  have HBY : Hid (∀ c ∈ l, c < 256) := hby
  clear hcells hby
  go_enter Try.func43, Try.ntmps43
  go_wp2
  go_loopw [3, 4] (fun s3 s4 wr => ∃ (k : Nat) (q : Option Nat) (a3 : Option Addr) (n3 c3 : Nat), k ≤ l.length ∧ s4 = .int .i64 ((l.length : Int) - 1 - (k : Int)) ∧ s3 = .slice a3 n3 c3 ∧ Gw w wr (.slice a3 n3 c3) ((turn l).take k) q) (fun _ s _ => (intOf s + 1).toNat)
  case atStart => exact ⟨0, none, none, 0, 0, by omega, by simp, rfl, ⟨by simpa using Own.nil w, by simp, Below.refl _ _⟩⟩
  case round =>
    obtain ⟨k, q, a3, n3, c3, hk, rfl, rfl, hgw⟩ := hrel
    have HG : Hid (Gw w wr (.slice a3 n3 c3) ((turn l).take k) q) := hgw
    clear hgw
    by_cases hlt : k < l.length
    · obtain ⟨p, hp⟩ : ∃ p, l.length - 1 - k = p := ⟨_, rfl⟩
      have ep : (l.length : Int) - 1 - (k : Int) = (p : Int) := by omega
      have hpl : p < l.length := by omega
      obtain ⟨b, off, rfl, hc⟩ := HC.out (by rintro rfl; simp at hlt)
      have hcp := hc p hpl
      have hbl2 := cell_lt hcp
      simp only at hbl2
      have hcp' : wr.cell? ⟨b, off + p, none⟩ = some (.int .u8 ((l.getD p 0 : Nat) : Int)) := by rw [HG.out.be.cell (p := ⟨b, off + p, none⟩) hbl2]; exact hcp
      have HST : Hid ((turn l).take (k + 1) = (turn l).take k ++ [(l.getD p 0 + 1) % 256]) := by have := turn_step l k hlt; rw [hp] at this; exact this
      have HLT : Hid (((turn l).take k).length = k) := by unfold Hid; rw [List.length_take, turn_len]; omega
      have hy : l.getD p 0 < 256 := HBY.out _ (by rw [List.getD_eq_getElem?_getD, List.getElem?_eq_getElem hpl]; exact List.getElem_mem _)
      generalize l.getD p 0 = y at hcp' HST hy
      have e1 : ((y : Int) + 1) % 256 = (((y + 1) % 256 : Nat) : Int) := by omega
      have hz : (y + 1) % 256 < 256 := by omega
      generalize (y + 1) % 256 = z at HST e1 hz
      generalize (turn l).take k = X at HG HST HLT
      rw [ep]
      have epm : (p : Int) - 1 = (l.length : Int) - 1 - ((k + 1 : Nat) : Int) := by omega
      have HEP : Hid ((l.length : Int) - 1 - (k : Int) = (p : Int)) := ep
      have HEM : Hid ((p : Int) - 1 = (l.length : Int) - 1 - ((k + 1 : Nat) : Int)) := epm
      clear hp ep epm hc hcp
      go_wp2_with (at_builtin; refine wpList_append_row _ rfl _ _ 22 22 rfl Try.underlying22 _ _ X [z] q rfl rfl ?hOwn ?hByte ?hSrc ?hLen ?_)
      case hOwn => exact HG.out.ow.later ((Below.refl _ _).alloc (Nat.le_refl _) _)
      case hByte => first | exact hz | (intro u hu; rw [List.mem_singleton] at hu; omega)
      case hSrc => exact src_one wr z 22 5 Try.underlying22
      case hLen => have := HLT.out; simp; omega
      intro v' w3 r3 ho3 hg3 hr3 hn3
      obtain ⟨a4, c4, rfl⟩ := ho3.isSlice
      have HG3 : Hid (Gw w w3 (.slice a4 (X ++ [z]).length c4) ((turn l).take (k + 1)) r3) := by unfold Hid; rw [HST.out]; exact HG.out.more ((Below.refl _ _).alloc (Nat.le_refl _) _) ho3 hg3 (by simpa using hr3)
      generalize (X ++ [z]).length = n4 at HG3 ⊢
      clear ho3 hg3 hr3 hn3
      go_wp2
      go_roundw
      case rel => exact ⟨k + 1, r3, a4, n4, c4, by omega, by rw [← HEM.out], rfl, HG3.out⟩
      case measure => simp [intOf]
    · obtain rfl : k = l.length := by omega
      have e0 : (l.length : Int) - 1 - (l.length : Int) = -1 := by omega
      have HF : Hid (Gw w wr (.slice a3 n3 c3) (turn l) q) := by have := HG.out; rwa [List.take_of_length_le (by rw [turn_len]; omega)] at this
      clear HC
      rw [e0]
      go_wp2
      go_ret
      exact ⟨_, q, rfl, HF.out.ow, HF.out.qb, HF.out.be⟩
end Go.Proofs.Ytklfmgkfcacfkaa
