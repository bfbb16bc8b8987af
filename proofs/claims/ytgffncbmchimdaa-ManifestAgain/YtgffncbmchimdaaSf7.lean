import Derived.Test.YtgffncbmchimdaaSf6
/-! What stands against an operation; the file that a name leads to; the count of operations. -/
namespace Go.Proofs.Ytgffncbmchimdaa
open Go.RowKit Go.Maps Plain
set_option linter.unusedVariables false
set_option linter.unusedSimpArgs false

/-- A slice of texts. -/
def StrsAt (w : World) (v : Value) (ns : List ByteArray) : Prop := ∃ a cap, v = .slice a ns.length cap ∧ ns.length ≤ cap ∧ cap ≤ maxLen ∧ (∀ s ∈ ns, s.size ≤ maxLen) ∧ (ns ≠ [] → ∃ b off, a = some ⟨b, off, none⟩ ∧ ∀ j s, ns[j]? = some s → w.cell? ⟨b, off + j, none⟩ = some (.string s))
theorem StrsAt.none (w : World) : StrsAt w (.slice none 0 0) [] := ⟨Option.none, 0, rfl, by simp, by simp, by simp, by simp⟩
theorem StrsAt.one (w : World) (s : ByteArray) (t : TypeId) (hs : s.size ≤ maxLen) : StrsAt (w.alloc (.cells #[.string s] t)) (.slice (some ⟨w.heap.size, 0, Option.none⟩) 1 1) [s] :=
  ⟨_, 1, rfl, by simp, by unfold maxLen; omega, by simpa using hs, fun _ => ⟨w.heap.size, 0, rfl, fun j x hj => by
    have : j = 0 := by
      have := (List.getElem?_eq_some_iff.mp hj).1
      simp at this; exact this
    subst this
    simp at hj
    subst hj
    rw [World.cell?_alloc_at _ _ _ _ rfl]; rfl⟩⟩
theorem StrsAt.two (w : World) (s t : ByteArray) (ty : TypeId) (hs : s.size ≤ maxLen) (ht : t.size ≤ maxLen) : StrsAt (w.alloc (.cells #[.string s, .string t] ty)) (.slice (some ⟨w.heap.size, 0, Option.none⟩) 2 2) [s, t] :=
  ⟨_, 2, rfl, by simp, by unfold maxLen; omega, by simp; exact ⟨hs, ht⟩, fun _ => ⟨w.heap.size, 0, rfl, fun j x hj => by
    have : j = 0 ∨ j = 1 := by
      have := (List.getElem?_eq_some_iff.mp hj).1
      simp at this; omega
    rcases this with rfl | rfl
    · simp at hj; subst hj
      rw [World.cell?_alloc_at _ _ _ _ rfl]; rfl
    · simp at hj; subst hj
      rw [World.cell?_alloc_at _ _ _ _ rfl]; rfl⟩⟩
def nmsB (ns : List ByteArray) : Bool := ns.all fun s => nmL s.data.toList
def rdy (dead : Bool) (ns : List ByteArray) : Int := if dead then 34 else if nmsB ns then 0 else 30
theorem nms_take (ns : List ByteArray) (k : Nat) (s : ByteArray) (h : ns[k]? = some s) : nmsB (ns.take (k + 1)) = (nmsB (ns.take k) && nmL s.data.toList) := by
  obtain ⟨hk, e⟩ := List.getElem?_eq_some_iff.mp h
  unfold nmsB
  rw [List.take_succ_eq_append_getElem hk, e]
  simp
theorem nms_bad (ns : List ByteArray) (k : Nat) (s : ByteArray) (h : ns[k]? = some s) (hb : nmL s.data.toList = false) : nmsB ns = false := by
  unfold nmsB
  rw [List.all_eq_false]
  exact ⟨s, List.mem_of_getElem? h, by simp [hb]⟩
theorem retI {a b : Int} (h : a = b) : Ending.returned (.int .i64 a) = .returned (.int .i64 b) := by rw [h]

set_option maxHeartbeats 1000000 in
set_option maxRecDepth 100000 in
theorem readyOf (d : Nat) (dead : Bool) (ns : List ByteArray) (v : Value) (w : World) (hd : w.cell? ⟨d, 8, none⟩ = some (.bool dead)) (hv : StrsAt w v ns) :
    Calls Try.prog 29 #[.pointer (some ⟨d, 0, none⟩), v] w fun e w' => e = .returned (.int .i64 (rdy dead ns)) ∧ w' = w := by
  obtain ⟨a, cap, rfl, hlc, hcm, hsz, hcells⟩ := hv
  unfold maxLen at hcm
  have HC : Hid (ns ≠ [] → ∃ b off, a = some ⟨b, off, none⟩ ∧ ∀ j s, ns[j]? = some s → w.cell? ⟨b, off + j, none⟩ = some (.string s)) := hcells
  have HSZ : Hid (∀ s ∈ ns, s.size ≤ maxLen) := hsz
  clear hcells hsz
  cases dead with
  | true =>
    go_enter Try.func29, Try.ntmps29
    go_wp2
    go_ret
    exact ⟨rfl, rfl⟩
  | false =>
    go_enter Try.func29, Try.ntmps29
    go_wp2
    go_loopg [15] ns.length (fun gk s15 wx => ∃ k : Nat, k + gk = ns.length ∧ s15 = .int .i64 k ∧ wx = w ∧ Hid (nmsB (ns.take k) = true))
    case atStart => exact ⟨0, by omega, rfl, rfl, rfl⟩
    case round =>
      obtain ⟨k, hkg, rfl, rfl, HK⟩ := hrel
      cases gk with
      | zero =>
        have HR : Hid (rdy false ns = 0) := by
          have := HK.out
          rw [List.take_of_length_le (by omega)] at this
          unfold Hid rdy
          rw [this]; rfl
        go_wp2
        go_ret
        exact ⟨retI HR.out.symm, rfl⟩
      | succ gk1 =>
        have hk : k < ns.length := by omega
        obtain ⟨s, hs⟩ : ∃ s, ns[k]? = some s := ⟨_, List.getElem?_eq_getElem hk⟩
        obtain ⟨b, off, rfl, hc⟩ := HC.out (by rintro rfl; simp at hk)
        have hcell := hc k s hs
        have HT : Hid (nmsB (ns.take (k + 1)) = (nmsB (ns.take k) && nmL s.data.toList)) := nms_take ns k s hs
        have HB : Hid (nmL s.data.toList = false → nmsB ns = false) := nms_bad ns k s hs
        have hss : s.size ≤ maxLen := HSZ.out s (List.mem_of_getElem? hs)
        clear hc hs
        go_wp2_with fail
        refine (isNameOf s wr hss).mono ?_
        rintro e w1 ⟨rfl, rfl⟩
        cases hn : nmL s.data.toList with
        | false =>
          have HR : Hid (rdy false ns = 30) := by unfold Hid rdy; rw [HB.out hn]; rfl
          clear hn
          go_wp2
          go_ret
          exact ⟨retI HR.out.symm, rfl⟩
        | true =>
          have HK2 : Hid (nmsB (ns.take (k + 1)) = true) := by unfold Hid; rw [HT.out, HK.out, hn]; rfl
          clear hn
          go_wp2
          go_roundg gk1
          case measure => omega
          case rel => exact ⟨k + 1, by omega, by go_num, by trivial, HK2.out⟩

def ptrO (o : Option Nat) : Value := o.elim (.pointer none) fun g => .pointer (some ⟨g, 0, none⟩)
/-- A name is looked up. -/
theorem lookO (w : World) (m : Option Nat) (L : Dir) (h : MapO w m L) (s : ByteArray) (hs : s.size ≤ maxLen) : (Instr.lookup 64 (.map m) (.string s) false).run Try.prog w = .ok (ptrO (look L s.data.toList)) w := by
  have hz : (zeroValue 70).run Try.prog w = .ok (.pointer none) w := by kernel_rfl
  rcases h with ⟨rfl, rfl⟩ | ⟨b, rfl, h⟩
  · have e := Maps.look_nil (w := w) false keyed9 Try.underlying64 hz (key_str s hs)
    exact e
  · obtain ⟨v, ps, h1, h2⟩ := World.ownsMap.lookup h keyed9 Try.underlying64 hz (zd := .nil) (zp := []) rfl (key_str s hs)
    rw [toD_at] at h2
    have hv : v = ptrO (look L s.data.toList) := by
      rcases Rp_inv h2 with ⟨rfl, e⟩ | ⟨g, rfl, e⟩
      · cases hl : look L s.data.toList with
        | none => rfl
        | some g => rw [hl] at e; simp at e
      · cases hl : look L s.data.toList with
        | none => rw [hl] at e; simp at e
        | some g' =>
          rw [hl] at e
          simp at e
          obtain rfl : g' = g := by omega
          rfl
    rw [hv] at h1
    exact h1
end Go.Proofs.Ytgffncbmchimdaa
