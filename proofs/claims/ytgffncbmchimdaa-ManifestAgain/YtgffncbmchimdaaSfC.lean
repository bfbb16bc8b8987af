import Derived.Test.YtgffncbmchimdaaSfA
import Derived.Test.YtgffncbmchimdaaSfB
/-! The directory is changed, and made durable. -/
namespace Go.Proofs.Ytgffncbmchimdaa
open Go.RowKit Go.Maps Plain
set_option linter.unusedVariables false
set_option linter.unusedSimpArgs false

/-- A change can be done to a directory: its names are short, what it moves is there. -/
def DC.can (c : DC) (L : Dir) : Prop := Sum.elim (fun p => p.1.length ≤ maxLen) (Sum.elim (fun p => p.1.length ≤ maxLen ∧ p.2.length ≤ maxLen ∧ ∃ g, look L p.1 = some g) (fun k => k.length ≤ maxLen ∧ ∃ g, look L k = some g)) c
theorem str_size (k : Nm) : (str k).size = k.length := by simp [str, ByteArray.size]
/-- What the method of a change answers. -/
def OntoPost (m : Option Nat) (L : Dir) (w : World) (e : Ending) (w' : World) : Prop := ∃ b, e = .returned (.map (some b)) ∧ MapAt w' b L ∧ w.grownBy w' m ∧ (m = some b ∨ w.heap.size ≤ b)

theorem look_nil (k : Nm) : look [] k = none := rfl
theorem MapO.some_of_look {w : World} {m : Option Nat} {L : Dir} {k : Nm} {g : Nat} (h : MapO w m L) (hl : look L k = some g) : ∃ b, m = some b ∧ MapAt w b L := by
  rcases h with ⟨rfl, rfl⟩ | h
  · rw [look_nil] at hl; simp at hl
  · exact h

/-- The function and the receiver behind a change. -/
def DC.fn (c : DC) : Nat := Sum.elim (fun _ => 101) (Sum.elim (fun _ => 106) (fun _ => 107)) c
def DC.rcv (c : DC) : Value := Sum.elim (fun p => .agg #[.string (str p.1), .pointer (some ⟨p.2, 0, none⟩)]) (Sum.elim (fun p => .agg #[.string (str p.1), .string (str p.2)]) (fun k => .agg #[.string (str k)])) c
def DC.ty (c : DC) : TypeId := Sum.elim (fun _ => 99) (Sum.elim (fun _ => 110) (fun _ => 112)) c
theorem DC.val_eq (c : DC) : c.val = .iface c.ty c.rcv := by
  cases c using DC.elim <;> rfl
theorem DC.meth (c : DC) (W : World) : (method 268 c.ty c.rcv "chronicle/simfs.onto").run Try.prog W = .ok (c.fn, c.rcv) W := by
  cases c using DC.elim with
  | mk k g => exact methCre _ W
  | mv a b => exact methRen _ W
  | rm k => exact methRem _ W
theorem DC.enter (c : DC) (a b : Value) (W : World) : (callFunc c.fn #[a, b]).run Try.prog W = .ok (.enter c.fn #[a, b]) W := by
  cases c using DC.elim with
  | mk k g => show (callFunc 101 #[a, b]).run Try.prog W = .ok (.enter 101 #[a, b]) W; kernel_rfl
  | mv k g => show (callFunc 106 #[a, b]).run Try.prog W = .ok (.enter 106 #[a, b]) W; kernel_rfl
  | rm k => show (callFunc 107 #[a, b]).run Try.prog W = .ok (.enter 107 #[a, b]) W; kernel_rfl
theorem ontoOf (c : DC) (m : Option Nat) (L : Dir) (w : World) (h : MapO w m L) (hc : c.can L) (hL : L.length < 4398046511104) : Calls Try.prog c.fn #[c.rcv, .map m] w (OntoPost m (DC.on L c) w) := by
  cases c using DC.elim with
  | mk k g =>
    refine (creOntoOf (str k) (by rw [str_size]; exact hc) g m L w h hL).mono ?_
    rintro e w' ⟨b, h1, h2, h3⟩
    rw [str_list] at h2
    exact ⟨b, h1, h2, h3⟩
  | mv a t =>
    obtain ⟨h1, h2, g, hg⟩ := hc
    obtain ⟨b, rfl, hb⟩ := h.some_of_look hg
    refine (renOntoOf (str a) (str t) (by rw [str_size]; exact h1) (by rw [str_size]; exact h2) g b L w hb (by rw [str_list]; exact hg) hL).mono ?_
    rintro e w' ⟨h1, h2, h3⟩
    rw [str_list, str_list] at h2
    refine ⟨b, h1, ?_, h3, .inl rfl⟩
    rw [DC.on_mv]
    have hg' : look L a = some g := hg
    rw [hg']
    exact h2
  | rm k =>
    obtain ⟨h1, g, hg⟩ := hc
    obtain ⟨b, rfl, hb⟩ := h.some_of_look hg
    refine (remOntoOf (str k) (by rw [str_size]; exact h1) b L w hb).mono ?_
    rintro e w' ⟨h1, h2, h3⟩
    rw [str_list] at h2
    exact ⟨b, h1, h2, h3, .inl rfl⟩

/-- A row of changes that can be done, one behind the other. -/
structure DOk (L : Dir) (cs : List DC) : Prop where
  can : ∀ (k : Nat) (c : DC), cs[k]? = some c → c.can (dst L (cs.take k))
  len : ∀ k, (dst L (cs.take k)).length < 4398046511104
  cnt : cs.length ≤ 4398046511103

set_option maxHeartbeats 2000000 in
set_option maxRecDepth 1000000 in
theorem afterDOf (m : Option Nat) (vc : Value) (L : Dir) (cs : List DC) (rc : Option Nat) (w : World) (h : MapO w m L) (hc : OwnV w vc (cs.map DC.val) rc) (hr : ∀ g, m = some g → rc ≠ some g) (hk : DOk L cs) :
    Calls Try.prog 56 #[.map m, vc] w fun e w' => ∃ m', e = .returned (.map m') ∧ MapO w' m' (dst L cs) ∧ w.grownBy w' m ∧ (m' = m ∨ ∃ g, m' = some g ∧ w.heap.size ≤ g) := by
  have HO : Hid (MapO w m L) := h
  have HC : Hid (OwnV w vc (cs.map DC.val) rc) := hc
  have HR : Hid (∀ g, m = some g → rc ≠ some g) := hr
  have HK : Hid (DOk L cs) := hk
  obtain ⟨a, cap, rfl, hcm, hlc⟩ := hc.shape
  unfold maxLen at hcm
  rw [List.length_map] at hlc ⊢
  have hcnt := hk.cnt
  clear h hc hr hk
  go_enter Try.func56, Try.ntmps56
  go_wp2
  go_loopg [0, 9] cs.length (fun gk s0 s9 wx => ∃ (k : Nat) (m0 : Option Nat), k + gk = cs.length ∧ s9 = .int .i64 k ∧ s0 = .map m0 ∧ Hid (MapO wx m0 (dst L (cs.take k)) ∧ w.grownBy wx m ∧ (m0 = m ∨ ∃ g, m0 = some g ∧ w.heap.size ≤ g)))
  case atStart => exact ⟨0, m, by omega, rfl, rfl, HO.out, below_grow (Below.refl _ _) _, .inl rfl⟩
  case round =>
    obtain ⟨k, m0, hkg, rfl, rfl, HI⟩ := hrel
    cases gk with
    | zero =>
      obtain rfl : k = cs.length := by omega
      go_wp2
      go_ret
      have h1 := HI.out
      rw [List.take_length] at h1
      exact ⟨m0, rfl, h1⟩
    | succ gk1 =>
      have hk : k < cs.length := by omega
      obtain ⟨c, hck⟩ : ∃ c, cs[k]? = some c := ⟨_, List.getElem?_eq_getElem hk⟩
      have hC2 : OwnV wr (.slice a (cs.map DC.val).length cap) (cs.map DC.val) rc := by
        have h0 := HC.out
        exact h0.of_block HI.out.2.1.size (fun g e => HI.out.2.1.block g (h0.rlt g e) (fun e2 => HR.out g e2.symm e))
      obtain ⟨gc, hrc, hac, hcell⟩ := hC2.get (j := k) (u := c.val) (by rw [List.getElem?_map, hck]; rfl)
      subst hac
      rw [DC.val_eq] at hcell
      have HST : Hid (dst L (cs.take (k + 1)) = DC.on (dst L (cs.take k)) c) := dst_take L cs k c hck
      have HCA : Hid (Calls Try.prog c.fn #[c.rcv, .map m0] wr (OntoPost m0 (DC.on (dst L (cs.take k)) c) wr)) := ontoOf c m0 _ wr HI.out.1 (HK.out.can k c hck) (HK.out.len k)
      have hm := DC.meth c wr
      have hcf := DC.enter c
      clear hC2 hck
      generalize c.ty = ty at hm hcell
      generalize c.rcv = rcv at hm hcell HCA
      generalize c.fn = fn at hm HCA hcf
      go_wp2_with fail
      refine HCA.out.mono ?_
      rintro e w3 ⟨b3, rfl, ho3, hg3, hr3⟩
      have HN : Hid (MapO w3 (some b3) (dst L (cs.take (k + 1))) ∧ w.grownBy w3 m ∧ (some b3 = m ∨ ∃ g, some b3 = some g ∧ w.heap.size ≤ g)) := by
        have hsz := HI.out.2.1.size
        unfold Hid
        rw [HST.out]
        refine ⟨.inr ⟨b3, rfl, ho3⟩, grow_trans HI.out.2.1 hg3 ?_, ?_⟩
        · rcases HI.out.2.2 with h | ⟨g, h, h2⟩
          · exact .inl h
          · exact .inr (.inr ⟨g, h, h2⟩)
        · rcases hr3 with e | e
          · rw [← e]
            rcases HI.out.2.2 with h | ⟨g, h, h2⟩
            · exact .inl h
            · exact .inr ⟨g, h, h2⟩
          · exact .inr ⟨b3, rfl, by omega⟩
      clear ho3 hg3 hr3 hm hcf
      go_wp2
      go_roundg gk1
      case measure => omega
      case rel => exact ⟨k + 1, some b3, by omega, by go_num, rfl, HN.out⟩
end Go.Proofs.Ytgffncbmchimdaa
