import Derived.Test.YtlnppgjppfkocaaGreatDoorGq34
import Derived.Test.YtlnppgjppfkocaaGreatDoorGq20
import Derived.Test.YtlnppgjppfkocaaGreatDoorGq29
import Derived.Test.YtlnppgjppfkocaaGreatDoorGq30
/-! What is read of a request, plainly. -/
namespace Go.Proofs.YtlnppgjppfkocaaGreatDoor.Xs
set_option linter.unusedVariables false
set_option linter.unusedSimpArgs false

def setT (r : Rq) (i : Nat) (y : By) : Rq := if i = 0 then { r with topic := y } else if i = 1 then { r with key := y } else { r with value := y }
def setN (r : Rq) (i : Nat) (n : Int) : Rq := if i = 0 then { r with offset := n } else if i = 1 then { r with number := n } else if i = 2 then { r with pid := n } else { r with seq := n }
theorem setT_same (r : Rq) {i : Nat} (h : i < 3) (y : By) : fT (setT r i y) i = y := by
  rcases i with _ | _ | _ | i
  · rfl
  · rfl
  · rfl
  · omega
theorem setT_other (r : Rq) {i j : Nat} (h : i < 3) (hj : j < 3) (hne : j ≠ i) (y : By) : fT (setT r i y) j = fT r j := by
  rcases i with _ | _ | _ | i <;> rcases j with _ | _ | _ | j <;> first | rfl | omega
theorem setT_num (r : Rq) {i : Nat} (h : i < 3) (y : By) : (setT r i y).id = r.id ∧ (setT r i y).op = r.op ∧ ∀ j, fN (setT r i y) j = fN r j := by
  rcases i with _ | _ | _ | i
  · exact ⟨rfl, rfl, fun j => rfl⟩
  · exact ⟨rfl, rfl, fun j => rfl⟩
  · exact ⟨rfl, rfl, fun j => rfl⟩
  · omega
theorem setN_same (r : Rq) {i : Nat} (h : i < 4) (n : Int) : fN (setN r i n) i = n := by
  rcases i with _ | _ | _ | _ | i
  · rfl
  · rfl
  · rfl
  · rfl
  · omega
theorem setN_other (r : Rq) {i j : Nat} (h : i < 4) (hj : j < 4) (hne : j ≠ i) (n : Int) : fN (setN r i n) j = fN r j := by
  rcases i with _ | _ | _ | _ | i <;> rcases j with _ | _ | _ | _ | j <;> first | rfl | omega
theorem setN_txt (r : Rq) {i : Nat} (h : i < 4) (n : Int) : (setN r i n).id = r.id ∧ (setN r i n).op = r.op ∧ ∀ j, fT (setN r i n) j = fT r j := by
  rcases i with _ | _ | _ | _ | i
  · exact ⟨rfl, rfl, fun j => rfl⟩
  · exact ⟨rfl, rfl, fun j => rfl⟩
  · exact ⟨rfl, rfl, fun j => rfl⟩
  · exact ⟨rfl, rfl, fun j => rfl⟩
  · omega
/-- What is known of the parts behind the operation. -/
def Tl (line : By) (z id op : Int) (T : List By) : Prop := ∀ d, Of line d → d.verb = 2 ∧ z = d.conn ∧ id = d.req.id ∧ op = d.req.op ∧ T = (fldL op).map (fldT d.req)
theorem Tl.parts {line : By} {z id op : Int} {T : List By} (h : Tl line z id op T) {d : Cm} (hd : Of line d) : T = (usT op).map (fun i => txt (fT d.req i)) ++ (usN op).map (fun i => Lib.itoa (fN d.req i)) := by
  obtain ⟨h2, _, _, e, hT⟩ := h d hd
  have ok := hd.2.1.say h2
  rw [hT, e, used_fld d.req ok.op1 ok.op2]
theorem Tl.partT {line : By} {z id op : Int} {T : List By} (h : Tl line z id op T) {d : Cm} (hd : Of line d) {k : Nat} (hk : k < (usT op).length) : ∃ qs, T.drop k = txt (fT d.req ((usT op).getD k 0)) :: qs := by
  have hp := h.parts hd
  have hl : k < T.length := by rw [hp, List.length_append, List.length_map]; omega
  refine ⟨T.drop (k + 1), ?_⟩
  rw [List.drop_eq_getElem_cons hl]
  congr 1
  have : T[k]? = some (txt (fT d.req ((usT op).getD k 0))) := by
    rw [hp, List.getElem?_append_left (by rw [List.length_map]; exact hk), List.getElem?_map, List.getElem?_eq_getElem hk, List.getD_eq_getElem?_getD, List.getElem?_eq_getElem hk]; rfl
  rw [List.getElem?_eq_getElem hl] at this
  exact Option.some.inj this
theorem Tl.partN {line : By} {z id op : Int} {T : List By} (h : Tl line z id op T) {d : Cm} (hd : Of line d) {k : Nat} (hk : k < (usN op).length) : ∃ qs, T.drop ((usT op).length + k) = Lib.itoa (fN d.req ((usN op).getD k 0)) :: qs := by
  have hp := h.parts hd
  have hl : (usT op).length + k < T.length := by rw [hp, List.length_append, List.length_map, List.length_map]; omega
  refine ⟨T.drop ((usT op).length + k + 1), ?_⟩
  rw [List.drop_eq_getElem_cons hl]
  congr 1
  have : T[(usT op).length + k]? = some (Lib.itoa (fN d.req ((usN op).getD k 0))) := by
    rw [hp, List.getElem?_append_right (by rw [List.length_map]; omega), List.length_map, Nat.add_sub_cancel_left, List.getElem?_map, List.getElem?_eq_getElem hk, List.getD_eq_getElem?_getD, List.getElem?_eq_getElem hk]; rfl
  rw [List.getElem?_eq_getElem hl] at this
  exact Option.some.inj this
/-- While the texts are read. -/
structure InT (line : By) (id op : Int) (k : Nat) (r : Rq) : Prop where
  eid : r.id = id
  eop : r.op = op
  num : ∀ j, j < 4 → fN r j = 0
  len : ∀ i, i < 3 → (fT r i).length ≤ 20000
  no : ∀ i, i < 3 → i ∉ (usT op).take k → fT r i = []
  is : ∀ d, Of line d → ∀ i ∈ (usT op).take k, fT r i = fT d.req i
theorem InT.start (line : By) (id op : Int) : InT line id op 0 ⟨id, op, [], [], [], 0, 0, 0, 0⟩ :=
  ⟨rfl, rfl, fun j hj => by rcases j with _ | _ | _ | _ | j <;> rfl, fun i hi => by rcases i with _ | _ | _ | i <;> simp [fT], fun i hi _ => by rcases i with _ | _ | _ | i <;> rfl, fun d hd i hi => by simp at hi⟩
theorem take_mem {l : List Nat} {k i : Nat} (hk : k < l.length) : i ∈ l.take (k + 1) ↔ i ∈ l.take k ∨ i = l.getD k 0 := by
  rw [List.take_succ_eq_append_getElem hk, List.mem_append, List.mem_singleton, List.getD_eq_getElem?_getD, List.getElem?_eq_getElem hk]; rfl
theorem getD_mem {l : List Nat} {k : Nat} (hk : k < l.length) : l.getD k 0 ∈ l := by
  rw [List.getD_eq_getElem?_getD, List.getElem?_eq_getElem hk]; exact List.getElem_mem hk
theorem InT.next {line : By} {z id op : Int} {T : List By} {k : Nat} {r : Rq} (h : InT line id op k r) (hT : Tl line z id op T) (hk : k < (usT op).length) {y p : By} {qs : List By} (hp : T.drop k = p :: qs) (hy : y.length ≤ 20000) (hx : ∀ x, p = txt x → y = x) : InT line id op (k + 1) (setT r ((usT op).getD k 0) y) := by
  have hi3 := usT_lt (getD_mem hk)
  obtain ⟨n1, n2, n3⟩ := setT_num r hi3 y
  refine ⟨n1.trans h.eid, n2.trans h.eop, fun j hj => (n3 j).trans (h.num j hj), fun i hi => ?_, fun i hi hn => ?_, fun d hd i hi => ?_⟩
  · by_cases e : i = (usT op).getD k 0
    · rw [e, setT_same r hi3]; exact hy
    · rw [setT_other r hi3 hi e]; exact h.len i hi
  · rw [take_mem hk] at hn
    rw [setT_other r hi3 hi (fun e => hn (.inr e))]
    exact h.no i hi (fun e => hn (.inl e))
  · by_cases e : i = (usT op).getD k 0
    · obtain ⟨qs', e2⟩ := hT.partT hd hk
      rw [hp] at e2
      rw [e, setT_same r hi3]
      exact hx _ (List.cons.inj e2).1
    · rcases (take_mem hk).1 hi with h1 | h1
      · rw [setT_other r hi3 (usT_lt (List.mem_of_mem_take h1)) e]
        exact h.is d hd i h1
      · exact absurd h1 e
/-- While the numbers are read. -/
structure InN (line : By) (id op : Int) (k : Nat) (r : Rq) : Prop where
  eid : r.id = id
  eop : r.op = op
  tno : ∀ i, i < 3 → i ∉ usT op → fT r i = []
  tis : ∀ d, Of line d → ∀ i ∈ usT op, fT r i = fT d.req i
  len : ∀ i, i < 3 → (fT r i).length ≤ 20000
  i64 : ∀ j, j < 4 → I64 (fN r j)
  no : ∀ i, i < 4 → i ∉ (usN op).take k → fN r i = 0
  is : ∀ d, Of line d → ∀ i ∈ (usN op).take k, fN r i = fN d.req i
theorem InT.turn {line : By} {id op : Int} {r : Rq} (h : InT line id op (usT op).length r) : InN line id op 0 r :=
  ⟨h.eid, h.eop, fun i hi hn => h.no i hi (by rw [List.take_length]; exact hn), fun d hd i hi => h.is d hd i (by rw [List.take_length]; exact hi), h.len, fun j hj => by rw [h.num j hj]; exact ⟨by omega, by omega⟩, fun i hi _ => h.num i hi, fun d hd i hi => by simp at hi⟩
theorem InN.next {line : By} {z id op : Int} {T : List By} {k : Nat} {r : Rq} (h : InN line id op k r) (hT : Tl line z id op T) (hk : k < (usN op).length) {n : Int} {p : By} {qs : List By} (hp : T.drop ((usT op).length + k) = p :: qs) (hn : I64 n) (hm : ∀ m, I64 m → p = Lib.itoa m → n = m) : InN line id op (k + 1) (setN r ((usN op).getD k 0) n) := by
  have hi4 := usN_lt (getD_mem hk)
  obtain ⟨n1, n2, n3⟩ := setN_txt r hi4 n
  refine ⟨n1.trans h.eid, n2.trans h.eop, fun i hi hno => (n3 i).trans (h.tno i hi hno), fun d hd i hi => (n3 i).trans (h.tis d hd i hi), fun i hi => by rw [n3 i]; exact h.len i hi, fun i hi => ?_, fun i hi hno => ?_, fun d hd i hi => ?_⟩
  · by_cases e : i = (usN op).getD k 0
    · rw [e, setN_same r hi4]; exact hn
    · rw [setN_other r hi4 hi e]; exact h.i64 i hi
  · rw [take_mem hk] at hno
    rw [setN_other r hi4 hi (fun e => hno (.inr e))]
    exact h.no i hi (fun e => hno (.inl e))
  · by_cases e : i = (usN op).getD k 0
    · obtain ⟨qs', e2⟩ := hT.partN hd hk
      rw [hp] at e2
      rw [e, setN_same r hi4]
      have hw := hd.1.req
      refine hm _ ?_ (List.cons.inj e2).1
      rw [e] at hi
      generalize (usN op).getD k 0 = j at hi4
      rcases j with _ | _ | _ | _ | j
      · exact hw.offset
      · exact hw.number
      · exact hw.pid
      · exact hw.seq
      · omega
    · rcases (take_mem hk).1 hi with h1 | h1
      · rw [setN_other r hi4 (usN_lt (List.mem_of_mem_take h1)) e]
        exact h.is d hd i h1
      · exact absurd h1 e
theorem uses_T {op : Int} (h1 : 1 ≤ op) (h2 : op ≤ 15) {i : Nat} (hi : i < 3) (hn : i ∉ usT op) : usesB op (ltT i) ≠ true := fun h => by
  unfold usesB at h
  rw [← us_fld op h1 h2, List.contains_iff_mem, List.mem_append] at h
  rcases h with h | h
  · obtain ⟨j, hj, e⟩ := List.mem_map.1 h
    have hj3 := usT_lt hj
    have : j = i := by
      rcases i with _ | _ | _ | i <;> rcases j with _ | _ | _ | j <;> first | rfl | omega | (exfalso; revert e; decide)
    rw [this] at hj; exact hn hj
  · obtain ⟨j, hj, e⟩ := List.mem_map.1 h
    have hj4 := usN_lt hj
    rcases i with _ | _ | _ | i <;> rcases j with _ | _ | _ | _ | j <;> first | omega | (exfalso; revert e; decide)
theorem uses_N {op : Int} (h1 : 1 ≤ op) (h2 : op ≤ 15) {i : Nat} (hi : i < 4) (hn : i ∉ usN op) : usesB op (ltN i) ≠ true := fun h => by
  unfold usesB at h
  rw [← us_fld op h1 h2, List.contains_iff_mem, List.mem_append] at h
  rcases h with h | h
  · obtain ⟨j, hj, e⟩ := List.mem_map.1 h
    have hj3 := usT_lt hj
    rcases i with _ | _ | _ | _ | i <;> rcases j with _ | _ | _ | j <;> first | omega | (exfalso; revert e; decide)
  · obtain ⟨j, hj, e⟩ := List.mem_map.1 h
    have hj4 := usN_lt hj
    have : j = i := by
      rcases i with _ | _ | _ | _ | i <;> rcases j with _ | _ | _ | _ | j <;> first | rfl | omega | (exfalso; revert e; decide)
    rw [this] at hj; exact hn hj
theorem InN.done {line : By} {z id op : Int} {T : List By} {r : Rq} (h : InN line id op (usN op).length r) (hT : Tl line z id op T) : RdC line ⟨2, z, r, [], 0, []⟩ := fun d hd => by
  obtain ⟨h2, hz, hid, hop, _⟩ := hT d hd
  have ok := hd.2.1
  have oq := ok.say h2
  have ho1 : 1 ≤ op := by rw [hop]; exact oq.op1
  have ho2 : op ≤ 15 := by rw [hop]; exact oq.op2
  have tx : ∀ i, i < 3 → (fT d.req i = [] ∨ usesB op (ltT i) = true) → fT r i = fT d.req i := fun i hi hu => by
    by_cases hm : i ∈ usT op
    · exact h.tis d hd i hm
    · rw [h.tno i hi hm]
      rcases hu with e | e
      · exact e.symm
      · exact absurd e (uses_T ho1 ho2 hi hm)
  have nx : ∀ i, i < 4 → (fN d.req i = 0 ∨ usesB op (ltN i) = true) → fN r i = fN d.req i := fun i hi hu => by
    by_cases hm : i ∈ usN op
    · exact h.is d hd i (by rw [List.take_length]; exact hm)
    · rw [h.no i hi (by rw [List.take_length]; exact hm)]
      rcases hu with e | e
      · exact e.symm
      · exact absurd e (uses_N ho1 ho2 hi hm)
  have t0 := tx 0 (by omega) (by rw [hop]; exact oq.uT)
  have t1 := tx 1 (by omega) (by rw [hop]; exact oq.uK)
  have t2 := tx 2 (by omega) (by rw [hop]; exact oq.uV)
  have n0 := nx 0 (by omega) (by rw [hop]; exact oq.uO)
  have n1 := nx 1 (by omega) (by rw [hop]; exact oq.uN)
  have n2 := nx 2 (by omega) (by rw [hop]; exact oq.uP)
  have n3 := nx 3 (by omega) (by rw [hop]; exact oq.uS)
  have hr : r = d.req := by
    have e1 := h.eid.trans hid
    have e2 := h.eop.trans hop
    cases r
    cases hdr : d.req
    rw [hdr] at t0 t1 t2 n0 n1 n2 n3 e1 e2
    simp only [fT, fN] at t0 t1 t2 n0 n1 n2 n3
    simp_all
  exact cm_ext h2.symm hz hr (ok.raw.resolve_right (by omega)).symm (ok.n (by omega) (by omega) (by omega)).symm (ok.picks.resolve_right (by unfold usesPicks; omega)).symm
theorem InN.wf {line : By} {id op : Int} {k : Nat} {r : Rq} (h : InN line id op k r) (h1 : 0 ≤ id) (h2 : id ≤ 4294967295) (ho : I64 op) : WfR r :=
  ⟨by rw [h.eid]; exact h1, by rw [h.eid]; exact h2, by rw [h.eop]; exact ho, h.i64 0 (by omega), h.i64 1 (by omega), h.i64 2 (by omega), h.i64 3 (by omega)⟩
end Go.Proofs.YtlnppgjppfkocaaGreatDoor.Xs

/-! The program's reading of a request. -/
namespace Go.Proofs.YtlnppgjppfkocaaGreatDoor.Xs
open Go.RowKit Plain
set_option linter.unusedVariables false
set_option linter.unusedSimpArgs false

theorem cm_setT (z : Int) (r : Rq) {i : Nat} (h : i < 3) (y : By) : cmLst ⟨2, z, setT r i y, [], 0, []⟩ nilV nilV = (cmLst ⟨2, z, r, [], 0, []⟩ nilV nilV).set (4 + i) (.string (ba y)) := by
  rcases i with _ | _ | _ | i
  · rfl
  · rfl
  · rfl
  · omega
theorem cm_setN (z : Int) (r : Rq) {i : Nat} (h : i < 4) (n : Int) : cmLst ⟨2, z, setN r i n, [], 0, []⟩ nilV nilV = (cmLst ⟨2, z, r, [], 0, []⟩ nilV nilV).set (7 + i) (.int .i64 n) := by
  rcases i with _ | _ | _ | _ | i
  · rfl
  · rfl
  · rfl
  · rfl
  · omega
theorem idx_op {o n : Int} {x : By} (h1 : 1 ≤ o) (h2 : o ≤ 15) (hx : x = opT o) (h : IdxP opsL x n) : n = o := by
  have ho : opT o = oW.getD (o.toNat - 1) [] := by unfold opT; rw [if_pos ⟨h1, h2⟩]
  have key : ∀ i : Fin 65, ∀ j : Fin 15, opsL.getD i.val [] = oW.getD j.val [] → i.val = j.val + 1 := by decide +kernel
  rcases h with ⟨_, hn⟩ | ⟨n0, nl, hn⟩
  · exfalso
    apply hn
    have hm : ∀ j : Fin 15, oW.getD j.val [] ∈ opsL := by decide +kernel
    rw [hx, ho]
    exact hm ⟨o.toNat - 1, by omega⟩
  · rw [opsL_len] at nl
    have := key ⟨n.toNat, nl⟩ ⟨o.toNat - 1, by omega⟩ (by rw [hn, hx, ho])
    simp only at this
    omega
theorem idx_i64 {l : List By} {x : By} {n : Int} (h : IdxP l x n) (hl : l.length ≤ 1000) : I64 n := by
  rcases h with ⟨e, _⟩ | ⟨h1, h2, _⟩
  · rw [e]; exact ⟨by omega, by omega⟩
  · exact ⟨by omega, by omega⟩
/-- Within the reading of a request. -/
structure SyS (W w wl : World) (g b X : Nat) (z : Int) (r : Rq) (ps : List By) : Prop where
  rd : RdW W wl g b ps
  bx : Bx W wl X (cmLst ⟨2, z, r, [], 0, []⟩ nilV nilV)
  ch : Ch (fun k => k = g ∨ k = X) w wl
theorem SyS.put {W w wl : World} {g b X : Nat} {z : Int} {r r' : Rq} {ps : List By} (h : SyS W w wl g b X z r ps) (hg : X ≠ g) (hb : X ≠ b) {i : Nat} (hi : i < 14) (v : Value) (e : cmLst ⟨2, z, r', [], 0, []⟩ nilV nilV = (cmLst ⟨2, z, r, [], 0, []⟩ nilV nilV).set i v) : SyS W w (wl.setCell ⟨X, i, none⟩ v) g b X z r' ps := by
  have hch : Ch (· = X) wl (wl.setCell ⟨X, i, none⟩ v) := (Ch.refl _ _).set i _ rfl
  exact ⟨h.rd.ch hch (fun k e => by rw [e]; exact h.bx.ge) (Ne.symm hg) (Ne.symm hb), h.bx.set (by simpa [cmLst] using hi) v e, h.ch.trans (hch.mono (fun k e => .inr e))⟩
theorem SyS.later {W w wl w' : World} {g b X : Nat} {z : Int} {r : Rq} {ps : List By} (h : SyS W w wl g b X z r ps) (hb : Below wl.heap.size wl w') : SyS W w w' g b X z r ps :=
  ⟨h.rd.later hb, h.bx.later hb, h.ch.more hb⟩
theorem SyS.go {W w wl w' : World} {g b X : Nat} {z : Int} {r : Rq} {p : By} {ps : List By} (h : SyS W w wl g b X z r (p :: ps)) (hg : X ≠ g) (hr : RdAt w' g b ps) (hc : Ch (· = g) wl w') : SyS W w w' g b X z r ps :=
  ⟨h.rd.go hr hc, h.bx.ch hc hg, h.ch.trans (hc.mono (fun k e => .inl e))⟩
theorem noc_say {line : By} {z : Int} {T : List By} (h : St2 line 2 z T) (hn : ∀ p qs, T = p :: qs → ∀ m, I64 m → p ≠ Lib.itoa m) : NoC line := fun d hd => by
  obtain ⟨e1, e2, e3⟩ := h d hd
  unfold restA at e3
  rw [if_pos e1.symm] at e3
  have hq := hd.1.req
  exact hn _ _ e3 _ ⟨by have := hq.id1; omega, by have := hq.id2; omega⟩ rfl
theorem tl_of {line x y : By} {z m n : Int} {T : List By} (h : St2 line 2 z (x :: y :: T)) (hm : ∀ k, I64 k → x = Lib.itoa k → m = k) (hn : IdxP opsL y n) : Tl line z (m % 4294967296) n T := fun d hd => by
  obtain ⟨e1, e2, e3⟩ := h d hd
  have ok := hd.2.1.say e1.symm
  have hq := hd.1.req
  unfold restA at e3
  rw [if_pos e1.symm] at e3
  obtain ⟨a1, a2⟩ := List.cons.inj e3
  obtain ⟨b1, b2⟩ := List.cons.inj a2
  have hmm := hm _ ⟨by have := hq.id1; omega, by have := hq.id2; omega⟩ a1
  have hnn := idx_op ok.op1 ok.op2 b1 hn
  refine ⟨e1.symm, e2, by have := hq.id1; have := hq.id2; omega, hnn, by rw [hnn]; exact b2⟩
theorem noc_op {line x : By} {z : Int} (h : St2 line 2 z [x]) : NoC line := fun d hd => by
  obtain ⟨e1, e2, e3⟩ := h d hd
  unfold restA at e3
  rw [if_pos e1.symm] at e3
  have := (List.cons.inj e3).2
  cases this
theorem nms_ch {w w' : World} {b n c : Nat} {l : List By} {S : Nat → Prop} (h : NmsAt w (.slice (some ⟨b, 0, none⟩) n c) l) (k : Ch S w w') (hb : ¬ S b) (hl : b < w.heap.size) : NmsAt w' (.slice (some ⟨b, 0, none⟩) n c) l := by
  obtain ⟨a, cap, e, h1, h2, h3, h4⟩ := h
  refine ⟨a, cap, e, h1, h2, h3, fun hne => ?_⟩
  obtain ⟨b', off, ea, hc⟩ := h4 hne
  subst ea
  have eb : b' = b := by
    have := e
    simp only [Value.slice.injEq, Option.some.injEq, Addr.mk.injEq] at this
    exact this.1.1.symm
  refine ⟨b', off, rfl, fun j hj => ?_⟩
  rw [← hc j hj]
  exact World.cell?_of_block (w := w) (a := ⟨b', off + j, none⟩) (by rw [eb]; exact k.block b hl hb)
set_option maxHeartbeats 4000000 in
set_option maxRecDepth 100000 in
theorem opWordsOf2 (w : World) :
    Calls Tryz.prog 36 #[] w fun e w' => e = .returned (.slice (some ⟨w.heap.size, 0, none⟩) 65 65) ∧ NmsAt w' (.slice (some ⟨w.heap.size, 0, none⟩) 65 65) opsL ∧ Below w.heap.size w w' ∧ w.heap.size < w'.heap.size := by
  go_enter Tryz.func36, Tryz.ntmps36
  go_wp2
  go_ret
  exact ⟨rfl, nms_new w opsL _ _ 65 rfl opsL_len (by omega) (by decide +kernel), (Below.refl _ w).alloc (Nat.le_refl _) _, by simp⟩
set_option maxHeartbeats 16000000 in
set_option maxRecDepth 100000 in
theorem readSayV (W w : World) (line : By) (g b X : Nat) (ps : List By) (h : Rdy W w line g b X 2 ps) (hO : OpsAt W) (hU : Lib.Utf8Tabs 4 5 W) :
    Calls Tryz.prog 65 #[.pointer (some ⟨g, 0, none⟩), .pointer (some ⟨X, 0, none⟩)] w (ReadP W w line g X) := by
  have HH := mkW h
  have HO := mkW hO
  have HU := mkW hU
  have HGX : Hid (g < w.heap.size ∧ X < w.heap.size ∧ b < w.heap.size) := ⟨h.rd.rd.glt, h.bx.lt, h.rd.rd.lt⟩
  clear h hO hU
  go_enter Tryz.func65, Tryz.ntmps65
  go_wp2_with (go_at_call 63; refine (rConnOf W _ g b X ps (cm0 2) nilV nilV HH.out.err HH.out.rd HH.out.bx HH.out.ng HH.out.nb).mono ?_)
  rintro e w1 (⟨p, qs, z, rfl, rfl, hn, hm, hr, hx, hch⟩ | ⟨hno, rfl, hch⟩)
  · have HS := mkW (st2_conn HH.out.is rfl hm)
    have HS1 : Hid (SyS W w w1 g b X z Rq.zero qs) := ⟨hr, hx, hch⟩
    have HZ := mkW hn
    clear hm hr hx hch hn
    go_wp2_with (go_at_call 95; refine (rNumOf W _ g b qs HH.out.err HS1.out.rd).mono ?_)
    rintro e w2 (⟨p2, qs2, m, rfl, rfl, hn2, hm2, hr2, hc2⟩ | ⟨hno2, rfl, hc2⟩)
    · have HS2 := mkW (HS1.out.go HH.out.ng hr2 hc2)
      have HM2 := mkW hm2
      have z2 : w2.cell? ⟨X, 2, none⟩ = some (.int .u32 0) := HS2.out.bx.c 2 (by simp [cmLst])
      have f2 := HS2.out.bx.fz 2 (by simp [cmLst])
      clear hm2 hr2 hc2 HS1
      go_wp2_with fail
      obtain ⟨w3, hw3⟩ : ∃ w3, w2.setCell ⟨X, 2, none⟩ (.int .u32 (m % 4294967296)) = w3 := ⟨_, rfl⟩
      have HS3 : Hid (SyS W w w3 g b X z ⟨m % 4294967296, 0, [], [], [], 0, 0, 0, 0⟩ qs2) := by
        rw [← hw3]
        exact HS2.out.put HH.out.ng HH.out.nb (i := 2) (by omega) _ rfl
      rw [hw3]
      clear hw3 z2 f2 HS2
      refine (opWordsOf2 _).mono ?_
      rintro e w4 ⟨rfl, hv4, hb4, hs4⟩
      have HS4 := mkW (HS3.out.later hb4)
      have HV4 := mkW hv4
      have hgn : w3.heap.size ≠ g := by have := HS3.out.rd.rd.glt; omega
      obtain ⟨V, hV⟩ : ∃ V, w3.heap.size = V := ⟨_, rfl⟩
      rw [hV] at HV4 hs4 hgn ⊢
      clear hv4 hb4 HS3 hV
      go_wp2_with (go_at_call 45; refine (rWordOf _ g b qs2 HS4.out.rd.rd).mono ?_)
      rintro e w5 (⟨y, T, rfl, rfl, hr5, hc5⟩ | ⟨rfl, rfl, rfl⟩)
      · have HS5 := mkW (HS4.out.go HH.out.ng hr5 hc5)
        have HV5 := mkW (nms_ch HV4.out hc5 hgn hs4)
        have z3 : w5.cell? ⟨X, 3, none⟩ = some (.int .i64 0) := HS5.out.bx.c 3 (by simp [cmLst])
        have f3 := HS5.out.bx.fz 3 (by simp [cmLst])
        clear hr5 hc5 HS4 HV4 hs4 hgn
        go_wp2_with (go_at_call 100; refine (sIndexOf opsL _ y _ HV5.out (by rw [opsL_len]; omega)).mono ?_; rintro e w6 ⟨⟨n, rfl, hidx⟩, rfl⟩)
        have HTL := mkW (tl_of HS.out HM2.out hidx)
        have HNI := mkW (idx_i64 hidx (by rw [opsL_len]; omega))
        generalize hid : m % 4294967296 = id at *
        have hid0 : 0 ≤ id ∧ id ≤ 4294967295 := by omega
        have HID := mkW hid0
        clear hid hid0 hidx hn2 HM2
        obtain ⟨w7, hw7⟩ : ∃ w7, w6.setCell ⟨X, 3, none⟩ (.int .i64 n) = w7 := ⟨_, rfl⟩
        have HS7 : Hid (SyS W w w7 g b X z ⟨id, n, [], [], [], 0, 0, 0, 0⟩ T) := by
          rw [← hw7]
          exact HS5.out.put HH.out.ng HH.out.nb (i := 3) (by omega) _ rfl
        rw [hw7]
        clear hw7 z3 f3 HS5 HV5
        refine (usedTOf X 2 n w7 (HO.out.later HS7.out.rd.bel) (HS7.out.bx.c 3 (by simp [cmLst]))).mono ?_
        rintro e w8 ⟨vl, rl, rfl, ho8, hn8, hb8⟩
        have HS8 := mkW (HS7.out.later hb8)
        have HRL : Hid (∀ x, rl = some x → x ≠ g ∧ x ≠ X) := fun x e => by
          have h1 := hn8 x e
          have h2 := HS7.out.rd.rd.glt
          have h3 := HS7.out.bx.lt
          exact ⟨by omega, by omega⟩
        obtain ⟨al, cl, rfl, _, _⟩ := ho8.shape
        rw [ptrs_len] at ho8 ⊢
        have HO8 := mkW ho8
        have hN3 := usT_len n
        obtain ⟨N, hN⟩ : ∃ N, (usT n).length = N := ⟨_, rfl⟩
        have HN := mkW hN
        rw [hN] at HO8 hN3 ⊢
        clear ho8 hn8 hb8 HS7 hN
        go_wp2
        go_loopw [31] (fun i wl => ∃ (k : Nat) (r : Rq), i = .int .i64 k ∧ k ≤ N ∧ Hid (InT line id n k r) ∧ Hid (SyS W w wl g b X z r (T.drop k)) ∧ Hid (OwnV wl (.slice al N cl) (ptrs X 4 (usT n)) rl)) (fun i _ => N - (intOf i).toNat)
        case atStart => exact ⟨0, _, rfl, Nat.zero_le _, InT.start line id n, HS8.out, HO8.out⟩
        case round =>
          obtain ⟨k, r, rfl, hk, HT, HS9, HO9⟩ := hrel
          by_cases hkn : k < N
          · have hki : (k : Int) < (N : Int) := by omega
            have hkl : k < (usT n).length := by rw [HN.out]; exact hkn
            have hi3 := usT_lt (getD_mem hkl)
            obtain ⟨bb, hbb, hcell⟩ := ownv_at HO9.out (ptrs_get (g := X) (o := 4) hkl) (Kp.refl (fun _ => True) wr) (fun x e => trivial)
            subst hbb
            have HKL := mkW hkl
            obtain ⟨i, hi⟩ : ∃ i, (usT n).getD k 0 = i := ⟨_, rfl⟩
            have HI := mkW hi
            rw [hi] at hcell hi3
            clear hkl hi
            go_wp2_with (go_at_call 101; refine (rTextOf W _ g b (T.drop k) HH.out.err HU.out HS9.out.rd).mono ?_)
            rintro e w10 (⟨px, qsx, yy, hpx, rfl, hyl, hyx, hr10, hc10⟩ | ⟨hno, rfl, hc10⟩)
            · have hdk : T.drop (k + 1) = qsx := by rw [← List.drop_drop, hpx]; rfl
              have HS10 : Hid (SyS W w w10 g b X z r (T.drop (k + 1))) := by
                have h9 := HS9.out
                rw [hpx] at h9
                rw [hdk]
                exact h9.go HH.out.ng hr10 hc10
              have HO10 := mkW (ownv_ch HO9.out hc10 (fun x e => (HRL.out x e).1))
              have HT2 : Hid (InT line id n (k + 1) (setT r i yy)) := by
                have := HT.out.next HTL.out HKL.out hpx hyl hyx
                rw [HI.out] at this
                exact this
              have z4 := HS10.out.bx.c (4 + i) (by simp only [cmLst, List.length_cons, List.length_nil]; omega)
              have f4 := HS10.out.bx.fz (4 + i) (by simp only [cmLst, List.length_cons, List.length_nil]; omega)
              generalize ((cmLst ⟨2, z, r, [], 0, []⟩ nilV nilV).getD (4 + i) (.bool false)) = ux at z4
              clear hpx hyx hr10 hc10 hdk HO9 HS9 HT hcell
              go_wp2
              have HS11 : Hid (SyS W w (w10.setCell ⟨X, 4 + i, none⟩ (.string (ba yy))) g b X z (setT r i yy) (T.drop (k + 1))) := HS10.out.put HH.out.ng HH.out.nb (by omega) _ (cm_setT z r hi3 yy)
              have HO11 : Hid (OwnV (w10.setCell ⟨X, 4 + i, none⟩ (.string (ba yy))) (.slice (some ⟨bb, 0, none⟩) N cl) (ptrs X 4 (usT n)) rl) := ownv_ch (S := (· = X)) HO10.out ((Ch.refl _ _).set (4 + i) _ rfl) (fun x e => (HRL.out x e).2)
              go_roundw
              case rel => exact ⟨k + 1, setT r i yy, by go_num, by omega, HT2, HS11, HO11⟩
              case measure => simp [intOf]; omega
            · have HNO : Hid (NoC line) := fun d hd => by
                obtain ⟨qs', e2⟩ := HTL.out.partT hd HKL.out
                exact hno _ _ e2 _ rfl
              exact ⟨by trivial, Or.inr ⟨HNO.out, rfl, HS9.out.ch.trans (hc10.mono (fun k e => .inl e))⟩⟩
          · have hkk : k = N := by omega
            subst hkk
            have HTN : Hid (InN line id n 0 r) := by
              have := HT.out
              rw [← HN.out] at this
              exact this.turn
            have hop : wr.cell? ⟨X, 2 + 1, none⟩ = some (.int .i64 n) := by
              have := HS9.out.bx.c 3 (by simp [cmLst])
              rw [← HTN.out.eop]; exact this
            clear HT HO9 HO8 HS8
            go_wp2_with fail
            refine (usedNOf X 2 n wr (HO.out.later HS9.out.rd.bel) hop).mono ?_
            rintro e w8 ⟨vl, rl2, rfl, ho8, hn8, hb8⟩
            have HS8 : Hid (SyS W w w8 g b X z r (T.drop ((usT n).length + 0))) := by rw [HN.out]; exact HS9.out.later hb8
            have HRL2 : Hid (∀ x, rl2 = some x → x ≠ g ∧ x ≠ X) := fun x e => by
              have h1 := hn8 x e
              have h2 := HS9.out.rd.rd.glt
              have h3 := HS9.out.bx.lt
              exact ⟨by omega, by omega⟩
            obtain ⟨al2, cl2, rfl, _, _⟩ := ho8.shape
            rw [ptrs_len] at ho8 ⊢
            have HO8 := mkW ho8
            have hN4 := usN_len n
            obtain ⟨M, hM⟩ : ∃ M, (usN n).length = M := ⟨_, rfl⟩
            have HM := mkW hM
            rw [hM] at HO8 hN4 ⊢
            clear ho8 hn8 hb8 HS9 hM hop
            go_wp2
            go_loopw [45] (fun i wl => ∃ (k : Nat) (r : Rq), i = .int .i64 k ∧ k ≤ M ∧ Hid (InN line id n k r) ∧ Hid (SyS W w wl g b X z r (T.drop ((usT n).length + k))) ∧ Hid (OwnV wl (.slice al2 M cl2) (ptrs X 7 (usN n)) rl2)) (fun i _ => M - (intOf i).toNat)
            case atStart => exact ⟨0, r, rfl, Nat.zero_le _, HTN.out, HS8.out, HO8.out⟩
            case round =>
              obtain ⟨k, r, rfl, hk, HT, HS9, HO9⟩ := hrel
              by_cases hkn : k < M
              · have hki : (k : Int) < (M : Int) := by omega
                have hkl : k < (usN n).length := by rw [HM.out]; exact hkn
                have hi3 := usN_lt (getD_mem hkl)
                obtain ⟨bb, hbb, hcell⟩ := ownv_at HO9.out (ptrs_get (g := X) (o := 7) hkl) (Kp.refl (fun _ => True) wr) (fun x e => trivial)
                subst hbb
                have HKL := mkW hkl
                obtain ⟨i, hi⟩ : ∃ i, (usN n).getD k 0 = i := ⟨_, rfl⟩
                have HI := mkW hi
                rw [hi] at hcell hi3
                clear hkl hi
                go_wp2_with (go_at_call 95; refine (rNumOf W _ g b (T.drop ((usT n).length + k)) HH.out.err HS9.out.rd).mono ?_)
                rintro e w10 (⟨px, qsx, yy, hpx, rfl, hyl, hyx, hr10, hc10⟩ | ⟨hno, rfl, hc10⟩)
                · have hdk : T.drop ((usT n).length + (k + 1)) = qsx := by rw [← Nat.add_assoc, ← List.drop_drop, hpx]; rfl
                  have HS10 : Hid (SyS W w w10 g b X z r (T.drop ((usT n).length + (k + 1)))) := by
                    have h9 := HS9.out
                    rw [hpx] at h9
                    rw [hdk]
                    exact h9.go HH.out.ng hr10 hc10
                  have HO10 := mkW (ownv_ch HO9.out hc10 (fun x e => (HRL2.out x e).1))
                  have HT2 : Hid (InN line id n (k + 1) (setN r i yy)) := by
                    have := HT.out.next HTL.out HKL.out hpx hyl hyx
                    rw [HI.out] at this
                    exact this
                  have z4 := HS10.out.bx.c (7 + i) (by simp only [cmLst, List.length_cons, List.length_nil]; omega)
                  have f4 := HS10.out.bx.fz (7 + i) (by simp only [cmLst, List.length_cons, List.length_nil]; omega)
                  generalize ((cmLst ⟨2, z, r, [], 0, []⟩ nilV nilV).getD (7 + i) (.bool false)) = ux at z4
                  clear hpx hyx hr10 hc10 hdk HO9 HS9 HT hcell
                  go_wp2
                  have HS11 : Hid (SyS W w (w10.setCell ⟨X, 7 + i, none⟩ (.int .i64 yy)) g b X z (setN r i yy) (T.drop ((usT n).length + (k + 1)))) := HS10.out.put HH.out.ng HH.out.nb (by omega) _ (cm_setN z r hi3 yy)
                  have HO11 : Hid (OwnV (w10.setCell ⟨X, 7 + i, none⟩ (.int .i64 yy)) (.slice (some ⟨bb, 0, none⟩) M cl2) (ptrs X 7 (usN n)) rl2) := ownv_ch (S := (· = X)) HO10.out ((Ch.refl _ _).set (7 + i) _ rfl) (fun x e => (HRL2.out x e).2)
                  go_roundw
                  case rel => exact ⟨k + 1, setN r i yy, by go_num, by omega, HT2, HS11, HO11⟩
                  case measure => simp [intOf]; omega
                · have HNO : Hid (NoC line) := fun d hd => by
                    obtain ⟨qs', e2⟩ := HTL.out.partN hd HKL.out
                    have hi4 := usN_lt (getD_mem HKL.out)
                    refine hno _ _ e2 _ ?_ rfl
                    have hw := hd.1.req
                    generalize (usN n).getD k 0 = j at hi4
                    rcases j with _ | _ | _ | _ | j
                    · exact hw.offset
                    · exact hw.number
                    · exact hw.pid
                    · exact hw.seq
                    · omega
                  exact ⟨by trivial, Or.inr ⟨HNO.out, rfl, HS9.out.ch.trans (hc10.mono (fun k e => .inl e))⟩⟩
              · have hkk : k = M := by omega
                subst hkk
                have HRD : Hid (RdC line ⟨2, z, r, [], 0, []⟩) := by
                  have := HT.out
                  rw [← HM.out] at this
                  exact this.done HTL.out
                have HWF : Hid (WfR r) := HT.out.wf HID.out.1 HID.out.2 HNI.out
                have HLE := mkW HT.out.len
                have HB := mkW HS9.out.bx
                have HCH := mkW HS9.out.ch
                clear HT HS9 HO9
                go_wp2
                go_end0
                exact Or.inl ⟨⟨2, z, r, [], 0, []⟩, nilV, nilV, none, none, rfl, ⟨⟨by show _ ≤ (2 : Int); omega, by show (2 : Int) ≤ _; omega⟩, HZ.out, HWF.out, i64_zero, fun x hx => by cases hx⟩, ⟨Nat.le_trans (HLE.out 0 (by omega)) (by decide), Nat.le_trans (HLE.out 1 (by omega)) (by decide), Nat.le_trans (HLE.out 2 (by omega)) (by decide)⟩, by simp, by simp, HRD.out, HB.out, Own.nil _, OwnV.nil _, (fun x e => by cases e), (fun x e => by cases e), .inl rfl, HCH.out⟩
      · exact ⟨by trivial, Or.inr ⟨noc_op HS.out, rfl, HS4.out.ch⟩⟩
    · exact ⟨by trivial, Or.inr ⟨noc_say HS.out hno2, rfl, HS1.out.ch.trans (hc2.mono (fun k e => .inl e))⟩⟩
  · exact ⟨by trivial, Or.inr ⟨noc_conn HH.out.is rfl hno, rfl, hch⟩⟩
end Go.Proofs.YtlnppgjppfkocaaGreatDoor.Xs

/-! Which fields of a command are not zero. -/
namespace Go.Proofs.YtlnppgjppfkocaaGreatDoor.Xs
open Go.RowKit Plain
set_option linter.unusedVariables false
set_option linter.unusedSimpArgs false

def fillN (b1 b2 b3 b4 : Bool) : Int := (if b1 then 1 else 0) + (if b2 then 2 else 0) + (if b3 then 4 else 0) + (if b4 then 8 else 0)
set_option maxHeartbeats 8000000 in
set_option maxRecDepth 100000 in
theorem filledOf (c : Cm) (ar ap : Option Addr) (cr cp : Nat) (w : World) :
    Calls Tryz.prog 42 #[cmV c (.slice ar c.raw.length cr) (.slice ap c.picks.length cp)] w fun e w' => e = .returned (.int .i64 (fillN (c.conn != 0) (!rqEq c.req Rq.zero) (decide (0 < c.raw.length)) (decide (0 < c.picks.length)))) ∧ Below w.heap.size w w' := by
  have HNE : Hid (∀ u, (binOp .neq 24 (rqV c.req) (rqV Rq.zero)).run Tryz.prog u = .ok (.bool (!rqEq c.req Rq.zero)) u) := fun u => rq_neq c.req Rq.zero u
  generalize rqEq c.req Rq.zero = KZ at *
  obtain ⟨b1, hb1⟩ : ∃ b1, (c.conn != 0) = b1 := ⟨_, rfl⟩
  obtain ⟨b3, hb3⟩ : ∃ b3, decide (0 < c.raw.length) = b3 := ⟨_, rfl⟩
  obtain ⟨b4, hb4⟩ : ∃ b4, decide (0 < c.picks.length) = b4 := ⟨_, rfl⟩
  rw [hb1, hb3, hb4]
  have hx := cmBox w c (.slice ar c.raw.length cr) (.slice ap c.picks.length cp) 28
  obtain ⟨W1, hW1⟩ : ∃ W1, w.alloc (.cells (cmA c (.slice ar c.raw.length cr) (.slice ap c.picks.length cp)) 28) = W1 := ⟨_, rfl⟩
  rw [hW1] at hx
  obtain ⟨hbel, z0, z1, z2, z3, z4, z5, z6, z7, z8, z9, z10, z11, z12, z13⟩ := hx
  have HB := mkW hbel
  obtain ⟨vb, cn, ⟨id, op, tp, ky, vl, fo, nu, pi, sq⟩, rw', n, pk⟩ := c
  simp only at *
  have HQ := HNE.out
  simp only [Rq.zero] at HQ
  clear hbel HNE
  cases b1 <;> cases KZ <;> cases b3 <;> cases b4
  all_goals
    go_enter Tryz.func42, Tryz.ntmps42
    go_wp2
    go_ret
    exact ⟨by first | rfl | decide, HB.out⟩
end Go.Proofs.YtlnppgjppfkocaaGreatDoor.Xs
