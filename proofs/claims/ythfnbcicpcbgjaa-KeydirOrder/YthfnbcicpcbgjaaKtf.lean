import Derived.Test.YthfnbcicpcbgjaaKtp
import Derived.Deep.LoopGhost
/-! keydir: a key is looked for. -/
namespace Go.Proofs.Ythfnbcicpcbgjaa
open Go.RowKit Plain
set_option linter.unusedVariables false

def FindPost (w : World) (key : ByteArray) (l : List Ke) (e : Ending) (w' : World) : Prop :=
  Below w.heap.size w w' ∧ ((findL key l = none ∧ e = .returned (.pointer none)) ∨ ∃ (g : Nat) (k : Ke) (c : Nat) (pl pr : Option Addr), findL key l = some k ∧ e = .returned (.pointer (some ⟨g, 0, none⟩)) ∧ NodeAt w' g k c pl pr)

set_option maxHeartbeats 2000000 in
theorem findOf {P : Nat → Prop} {n : Nat} {p : Option Addr} {l : List Ke} (key : ByteArray) (w : World) (ht : TreeAt P w n p l) (hs : Srt l) (hk : key.size ≤ maxLen) : Calls Try.prog 36 #[.pointer p, .string key] w (FindPost w key l) := by
  have HT : Hid (TreeAt P w n p l) := ht
  have HS : Hid (Srt l) := hs
  clear ht hs
  go_enter Try.func36, Try.ntmps36
  go_wp2
  go_loopg [0] n (fun gk s0 wx => ∃ (q : Option Addr) (l' : List Ke), s0 = .pointer q ∧ Hid (TreeAt P wx gk q l') ∧ Hid (Srt l') ∧ Hid (findL key l = findL key l') ∧ Hid (Below w.heap.size w wx))
  case atStart => exact ⟨p, l, rfl, HT.out, HS.out, rfl, Below.refl _ _⟩
  case round =>
    obtain ⟨q, l', rfl, HTQ, HSQ, HFQ, HBQ⟩ := hrel
    clear HT HS
    cases q with
    | none =>
      have hn := HTQ.out.none_is
      have HF : Hid (FindPost w key l (.returned (.pointer none)) wr) := ⟨HBQ.out, .inl ⟨by rw [HFQ.out, hn]; rfl, rfl⟩⟩
      go_wp2
      go_ret
      exact HF.out
    | some ar =>
      obtain ⟨m', g, k, pl, pr, ll, lr, hm, rfl, hPg, hkk, hng, hll, hl1, hr1⟩ := HTQ.out.some_is
      subst hm hll
      have HCM : Hid (∀ u, Calls Try.prog 39 #[.string key, .string k.key] u fun e w' => e = .returned (.int .i64 (kc key k.key)) ∧ Below u.heap.size u w') := fun u => compare key k.key u hk (by unfold maxLen; omega)
      have HN : Hid (NodeAt wr g k (ll ++ k :: lr).length pl pr) := hng
      have HL1 : Hid (TreeAt P wr m' pl ll) := hl1
      have HR1 : Hid (TreeAt P wr m' pr lr) := hr1
      obtain ⟨c0, -, -, -, -, -, -, -, -, -⟩ := HN.out
      clear hng hl1 hr1
      go_wp2_with fail
      refine (HCM.out _).mono ?_
      rintro e w1 ⟨rfl, hb1⟩
      have HB1 : Hid (Below w.heap.size w w1) := HBQ.out.trans (hb1.mono HBQ.out.size)
      have HN1 : Hid (NodeAt w1 g k (ll ++ k :: lr).length pl pr) := HN.out.block (hb1.block _ HN.out.lt)
      have HL2 : Hid (TreeAt P w1 m' pl ll) := HL1.out.later hb1
      have HR2 : Hid (TreeAt P w1 m' pr lr) := HR1.out.later hb1
      clear hb1 c0
      obtain ⟨-, -, -, -, -, -, -, -, c8, c9⟩ := HN1.out
      rcases kc_range key k.key with hc | hc | hc
      · have HC : Hid (kc key k.key = -1) := hc
        rw [hc]
        clear hc
        go_wp2
        go_roundg m'
        case rel => exact ⟨pl, ll, rfl, HL2.out, HSQ.out.parts.1, HFQ.out.trans (findL_lt HSQ.out HC.out), HB1.out⟩
        case measure => exact Nat.lt_succ_self _
      · have HF : Hid (FindPost w key l (.returned (.pointer (some ⟨g, 0, none⟩))) w1) := ⟨HB1.out, .inr ⟨g, k, _, pl, pr, HFQ.out.trans (findL_eq HSQ.out hc), rfl, HN1.out⟩⟩
        rw [hc]
        clear hc
        go_wp2
        go_ret
        exact HF.out
      · have HC : Hid (kc key k.key = 1) := hc
        rw [hc]
        clear hc
        go_wp2
        go_roundg m'
        case rel => exact ⟨pr, lr, rfl, HR2.out, HSQ.out.parts.2.1, HFQ.out.trans (findL_gt HSQ.out HC.out), HB1.out⟩
        case measure => exact Nat.lt_succ_self _
end Go.Proofs.Ythfnbcicpcbgjaa
