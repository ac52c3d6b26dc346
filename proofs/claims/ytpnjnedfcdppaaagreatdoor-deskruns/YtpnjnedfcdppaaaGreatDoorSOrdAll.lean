/-
  Joined texts: YtpnjnedfcdppaaaGreatDoorSRow, YtpnjnedfcdppaaaGreatDoorSpotB, YtpnjnedfcdppaaaGreatDoorSPar, YtpnjnedfcdppaaaGreatDoorSTurn, YtpnjnedfcdppaaaGreatDoorSTurn2, YtpnjnedfcdppaaaGreatDoorSOrd.
-/
import Derived.Test.YtpnjnedfcdppaaaGreatDoorCopy
import Derived.Test.YtpnjnedfcdppaaaGreatDoorOSpotsAll
import Derived.Maps.AppendAt
import Derived.OwnWalk
import Derived.Test.YtpnjnedfcdppaaaGreatDoorChecked
import Derived.Test.YtpnjnedfcdppaaaGreatDoorInts
import Derived.Test.YtpnjnedfcdppaaaGreatDoorSChkAll
import Derived.WalkSpells
/-
  A ROW OF SPOTS OF THE CALL'S OWN, WITH SPARE ROOM: what append, stores do to it. Nothing of the program.
-/
namespace Go.Proofs.YtpnjnedfcdppaaaGreatDoor
open Go.RowKit

def OwnR (w : World) (base t : Nat) (v : Value) (L : PL) : Prop := w.ownsRow base t 2 v L.length (flat L)
def SB (w : World) (g t : Nat) (L : PL) : Prop := ∃ cur, w.heap[g]? = some (.cells cur t (0, 0)) ∧ cur.toList.take (L.length * 2) = flat L
theorem SB.lt {w : World} {g t : Nat} {L : PL} (h : SB w g t L) : g < w.heap.size := by
  obtain ⟨cur, h, _⟩ := h
  rcases Nat.lt_or_ge g w.heap.size with hlt | hge
  · exact hlt
  · rw [Array.getElem?_eq_none hge] at h; cases h
theorem SB.cell {w : World} {g t : Nat} {L : PL} (h : SB w g t L) (i : Nat) (hi : i < L.length) : w.cell? ⟨g, i * 2, none⟩ = some (I (ky L i)) ∧ w.cell? ⟨g, i * 2 + 1, none⟩ = some (I (dp L i)) := by
  obtain ⟨cur, hg, htk⟩ := h
  have hf := flat_at L i hi
  rw [← htk, List.getElem?_take, List.getElem?_take, if_pos (by omega), if_pos (by omega)] at hf
  rw [ky_in hi, dp_in hi, cell_of_row _ _ _ _ _ _ hg, cell_of_row _ _ _ _ _ _ hg]
  exact ⟨by simpa using hf.1, by simpa using hf.2⟩
theorem SB.frozen {w : World} {g t : Nat} {L : PL} (h : SB w g t L) (i : Nat) : w.frozen? ⟨g, i, none⟩ = false := by
  obtain ⟨cur, hg, _⟩ := h
  simp [World.frozen?, hg]
theorem SB.ps {w : World} {g t c : Nat} {L : PL} (h : SB w g t L) (hc : L.length ≤ c) : PS w (some ⟨g, 0, none⟩) L.length c L := by
  refine ⟨rfl, hc, fun _ => ⟨g, 0, rfl, h.lt, fun i hi j hj => ?_⟩⟩
  have hx := h.cell i hi
  rcases (show j = 0 ∨ j = 1 by omega) with rfl | rfl
  · simpa [pf, ky] using hx.1
  · simpa [pf, dp] using hx.2
theorem SB.below {w w' : World} {g t B : Nat} {L : PL} (h : SB w g t L) (hb : Below B w w') (hg : g < B) : SB w' g t L := by
  obtain ⟨cur, h1, h2⟩ := h
  exact ⟨cur, (hb.block g hg).trans h1, h2⟩
theorem SB.set1 {w : World} {g t : Nat} {L : PL} (h : SB w g t L) (i : Nat) (v : Int) (hi : i < L.length) : SB (w.setCell ⟨g, i * 2 + 1, none⟩ (I v)) g t (L.set i (ky L i, v)) := by
  obtain ⟨cur, h1, h2⟩ := h
  refine ⟨cur.setIfInBounds (i * 2 + 1) (I v), ?_, ?_⟩
  · rw [setCell_eq_setRow w g (i * 2 + 1) _ t (0, 0) (I v) h1, setRow_heap w g _ _ t (0, 0) h1]
  · rw [ky_in hi, ← flat_set1 L i v hi, ← h2, List.length_set]
    simp [List.take_set]
theorem OwnR.sb {w : World} {base t n : Nat} {A : Option Addr} {c : Nat} {L : PL} (h : OwnR w base t (.slice A n c) L) (h0 : 0 < L.length) : ∃ g, A = some ⟨g, 0, none⟩ ∧ n = L.length ∧ base ≤ g ∧ L.length ≤ c ∧ SB w g t L := by
  rcases h.2 with ⟨_, h1⟩ | ⟨g, cap, cur, hv, hb, hg, hnc, _, _, htk⟩
  · omega
  · cases hv
    exact ⟨g, rfl, rfl, hb, hnc, cur, hg, htk⟩
theorem OwnR.ps {w : World} {base t : Nat} {v : Value} {L : PL} (h : OwnR w base t v L) : ∃ A c, v = .slice A L.length c ∧ PS w A L.length c L ∧ ∀ ad, A = some ad → base ≤ ad.block := by
  rcases h.2 with ⟨rfl, h0⟩ | ⟨g, cap, cur, rfl, hb, hg, hnc, _, hsz, htk⟩
  · have hl : L = [] := List.eq_nil_of_length_eq_zero h0
    subst hl
    exact ⟨none, 0, rfl, ⟨rfl, Rd.none_⟩, fun _ h => by cases h⟩
  · exact ⟨_, cap, rfl, SB.ps ⟨cur, hg, htk⟩ hnc, fun ad h => by cases h; exact hb⟩
theorem OwnR.ge {w : World} {base t : Nat} {v : Value} {L : PL} (h : OwnR w base t v L) : ∀ g, v.ownBlock = some g → base ≤ g := by
  intro g hg
  rcases h.2 with ⟨rfl, _⟩ | ⟨g', cap, cur, rfl, hb, _⟩
  · simp [Value.ownBlock] at hg
  · simp [Value.ownBlock] at hg; omega

theorem run_app2 {P : Program} (w : World) (T ty e : TypeId) (hu : P.underlying T = some (.slice e)) (hi : (P.info? e).map (fun i => (i.zero, i.size, i.bytes)) = some (some (.agg #[I 0, I 0]), 2, 16))
    (base : Nat) (v : Value) (L xs : PL) (hown : w.ownsRow base e 2 v L.length (flat L)) (sp : Option Addr) (m c : Nat) (hx : Src w sp m xs) (hbound : L.length + m ≤ 1000000) (hbase : base ≤ w.heap.size) :
    ∃ v' w', (Builtin.append_ #[T, T] ty #[v, .slice sp m c]).run P w = .ok v' w' ∧ w'.ownsRow base e 2 v' (L ++ xs).length (flat (L ++ xs)) ∧ w.grownBy w' v.ownBlock ∧ (v'.ownBlock = v.ownBlock ∨ v'.ownBlock = some w.heap.size) := by
  obtain ⟨i, h1, hz, hs, hb⟩ := info_parts hi
  cases sp with
  | some ad =>
    have hcl : (flat xs).length = m * 2 := by rw [flat_length, hx.1]
    have hcells : ∀ j u, (flat xs)[j]? = some u → w.cell? (ad.add j) = some u := by
      intro j u hu'
      rcases Nat.eq_zero_or_pos m with h0 | h0
      · have : xs = [] := List.eq_nil_of_length_eq_zero (hx.1.trans h0)
        subst this
        simp [flat] at hu'
      · obtain ⟨ad', e', hc⟩ := hx.2 h0
        cases e'
        exact hc j u hu'
    obtain ⟨v', w', hr, h2, h3, _, h5⟩ := run_append_own_at (P := P) w base T ty e i _ 2 16 hu h1 hz hs hb rfl (by decide) v L.length (flat L) hown ad m c (flat xs) hcl hcells (flat_one xs) (by unfold maxLen; omega) (by omega) hbase
    refine ⟨v', w', hr, ?_, h3, h5⟩
    rw [flat_append, List.length_append, hx.1]
    exact h2
  | none =>
    have hm : m = 0 := by
      rcases Nat.eq_zero_or_pos m with h0 | h0
      · exact h0
      · obtain ⟨_, e', _⟩ := hx.2 h0; cases e'
    subst hm
    have hxs : xs = [] := List.eq_nil_of_length_eq_zero hx.1
    subst hxs
    refine ⟨v, w, ?_, by simpa using hown, World.grownBy.refl w _, .inl rfl⟩
    rcases hown.2 with ⟨rfl, h0⟩ | ⟨g, cap, cur, rfl, _, _, hnc, _⟩
    · simp [Builtin.append_, run_underlying hu, sizeOf, typeInfo, h1, Builtin.lenOf, Builtin.firstCells]
    · simp [Builtin.append_, run_underlying hu, sizeOf, typeInfo, h1, Builtin.lenOf, Builtin.firstCells, hnc, storeCells]
theorem wpList_app2 {P : Program} {w : World} {ops : Array Oper} {rest : List Oper} {o : Oper} {a : Act} {Q : Exit → Act → World → Prop} (hgd : o.guard = none) (s x : Operand) (T : TypeId)
    (ho : o.op = .call { callee := .builtin .append, args := #[s, x], argTypes := #[T, T] }) (e : TypeId) (hu : P.underlying T = some (.slice e)) (hi : (P.info? e).map (fun i => (i.zero, i.size, i.bytes)) = some (some (.agg #[I 0, I 0]), 2, 16))
    (base : Nat) (v : Value) (L xs : PL) (sp : Option Addr) (m c : Nat) (hs : a.eval s = v) (hsx : a.eval x = .slice sp m c) (hown : w.ownsRow base e 2 v L.length (flat L)) (hx : Src w sp m xs) (hbound : L.length + m ≤ 1000000) (hbase : base ≤ w.heap.size)
    (h : ∀ v' w', w'.ownsRow base e 2 v' (L ++ xs).length (flat (L ++ xs)) → w.grownBy w' v.ownBlock → (v'.ownBlock = v.ownBlock ∨ v'.ownBlock = some w.heap.size) → wpList P ops Q rest (a.put o.dst v') w') : wpList P ops Q (o :: rest) a w := by
  refine wpList_plain hgd fun K hK => ?_
  obtain ⟨v', w', hrun, h2, h3, h4⟩ := run_app2 (P := P) w T o.type e hu hi base v L xs hown sp m c hx hbound hbase
  unfold Oper.wp execOp
  simp only [ho, resolve, invoke, builtin, Sem.run_bind, Sem.run_pure, Result.andThen_ok, List.map_toArray, List.map_cons, List.map_nil, hs, hsx, hrun]
  exact hK _ _ (h v' w' h2 h3 h4)
theorem shf_none (l : PL) (x : Nat) (by_ : Int) : shf l x x by_ = l := by simp [shf]
theorem shf_step (l : PL) (x y : Nat) (by_ : Int) (hxy : x ≤ y) (hy : y < l.length) : (shf l x y by_).set y (ky (shf l x y by_) y, dp (shf l x y by_) y + by_) = shf l x (y + 1) by_ := by
  have he : l = l.take x ++ (l.drop x).take (y - x) ++ l.drop y := by
    conv => lhs; rw [← List.take_append_drop x l, ← List.take_append_drop (y - x) (l.drop x), List.drop_drop]
    rw [show x + (y - x) = y by omega, List.append_assoc]
  have hX : (l.take x).length = x := by simp; omega
  have hY : ((l.drop x).take (y - x)).length = y - x := by simp; omega
  have hZ : l.drop y = l[y] :: l.drop (y + 1) := List.drop_eq_getElem_cons hy
  rw [hZ] at he
  generalize l.take x = X at *
  generalize (l.drop x).take (y - x) = Y at *
  generalize l.drop (y + 1) = Z at *
  generalize l[y] = q at *
  have s1 := shf_at (by_ := by_) he hX.symm (y := y) (by rw [hX, hY]; omega)
  have he2 : l = X ++ (Y ++ [q]) ++ Z := by rw [he]; simp
  have s2 := shf_at (by_ := by_) he2 hX.symm (y := y + 1) (by rw [hX]; simp [hY]; omega)
  rw [s1, s2]
  have hlen : (X ++ Y.map (fun p => (p.1, p.2 + by_))).length = y := by simp [hX, hY]; omega
  have hk := ky_mid (X ++ Y.map (fun p => (p.1, p.2 + by_))) Z q
  have hd := dp_mid (X ++ Y.map (fun p => (p.1, p.2 + by_))) Z q
  rw [hlen] at hk hd
  rw [hk, hd, List.set_append_right _ _ (by omega), hlen, Nat.sub_self, List.set_cons_zero]
  simp
theorem shf_far (l : PL) (x y : Nat) (by_ : Int) (hxy : x ≤ y) (hy : y < l.length) : dp (shf l x y by_) y = dp l y := by
  have he : l = l.take x ++ (l.drop x).take (y - x) ++ l.drop y := by
    conv => lhs; rw [← List.take_append_drop x l, ← List.take_append_drop (y - x) (l.drop x), List.drop_drop]
    rw [show x + (y - x) = y by omega, List.append_assoc]
  have hX : (l.take x).length = x := by simp; omega
  have hY : ((l.drop x).take (y - x)).length = y - x := by simp; omega
  have s1 := shf_at (by_ := by_) he hX.symm (y := y) (by rw [hX, hY]; omega)
  rw [s1]
  conv => rhs; rw [he]
  rw [dp_right (by simp; omega), dp_right (by simp; omega)]
  simp
theorem dp_sp_lt (t : Tr) (d : Int) : ∀ i, i < t.size → dp (t.sp d) i < d + t.size := by
  induction t generalizing d with
  | nil => intro i h; simp [Tr.size] at h
  | node a k b iha ihb =>
    intro i h
    simp only [Tr.size] at h ⊢
    simp only [Tr.sp]
    rcases Nat.lt_trichotomy i a.size with h1 | h1 | h1
    · rw [dp_left (by rw [sp_length]; exact h1)]
      have := iha (d + 1) i h1
      omega
    · have := dp_mid (a.sp (d + 1)) (b.sp (d + 1)) (k, d)
      rw [sp_length] at this
      rw [h1, this]
      show d < _
      omega
    · rw [dp_right (by rw [sp_length]; omega), sp_length]
      have e : dp ((k, d) :: b.sp (d + 1)) (i - a.size) = dp (b.sp (d + 1)) (i - a.size - 1) := by
        obtain ⟨m, hm⟩ : ∃ m, i - a.size = m + 1 := ⟨i - a.size - 1, by omega⟩
        rw [hm]; simp [dp]
      rw [e]
      have := ihb (d + 1) (i - a.size - 1) (by omega)
      omega
theorem tree_dp {l : PL} (h : IsTree l) : ∀ i, 0 ≤ dp l i ∧ dp l i ≤ 200 := by
  intro i
  obtain ⟨h1, _, t, ht⟩ := h
  rcases Nat.lt_or_ge i l.length with hi | hi
  · have h2 : t.size ≤ 200 := by rw [ht, sp_length] at h1; exact h1
    rw [ht, sp_length] at hi
    have a := sp_ge t 0 i hi
    have b := dp_sp_lt t 0 i hi
    rw [ht]
    omega
  · have : dp l i = 0 := by simp [dp, List.getElem?_eq_none hi]
    omega

end Go.Proofs.YtpnjnedfcdppaaaGreatDoor

/-
  Rows of spots of the call's own.
-/
namespace Go.Proofs.YtpnjnedfcdppaaaGreatDoor
open Go.RowKit

theorem gspot_info : (Tryz.prog.info? 82).map (fun i => (i.zero, i.size, i.bytes)) = some (some (.agg #[I 0, I 0]), 2, 16) := by kernel_rfl
theorem gsrc_one (w : World) (k d : Int) : Src (w.alloc (.cells #[I k, I d] 82)) (some ⟨w.heap.size, 0, none⟩) 1 [(k, d)] := by
  refine ⟨rfl, fun _ => ⟨_, rfl, fun j u hu => ?_⟩⟩
  match j with
  | 0 => simp [flat] at hu; simp [Addr.add, ← hu]
  | 1 => simp [flat] at hu; simp [Addr.add, ← hu]
  | j + 2 => simp [flat] at hu

def RetSO (L : PL) (base : Nat) (w : World) (e : Ending) (w' : World) : Prop := ∃ v, e = .returned v ∧ OwnR w' base 82 v L ∧ Below base w w'

end Go.Proofs.YtpnjnedfcdppaaaGreatDoor

/-
  A row of numbers of the call's own; shape.Parents.
-/
namespace Go.Proofs.YtpnjnedfcdppaaaGreatDoor
open Go.RowKit

def parL (l : PL) : List Int := (List.range l.length).map (par l)
theorem parL_length (l : PL) : (parL l).length = l.length := by simp [parL]
theorem parL_at (l : PL) (i : Nat) (h : i < l.length) : (parL l)[i]? = some (par l i) := by simp [parL, h]
def parTo (l : PL) (n k : Nat) : List Int := (List.range k).map (par l) ++ List.replicate (n - k) 0
theorem parTo_set (l : PL) (n k : Nat) (h : k < n) : (parTo l n k).set k (par l k) = parTo l n (k + 1) := by
  unfold parTo
  rw [List.set_append_right _ _ (by simp), List.range_succ, List.map_append]
  simp only [List.length_map, List.length_range, Nat.sub_self]
  rw [show n - k = n - (k + 1) + 1 by omega, List.replicate_succ]
  simp
theorem parTo_length (l : PL) (n k : Nat) (h : k ≤ n) : (parTo l n k).length = n := by simp [parTo]; omega

set_option maxRecDepth 100000 in
set_option maxHeartbeats 1000000 in
theorem Parents_ok (A : Option Addr) (n c : Nat) (l : PL) (w : World) (h : PS w A n c l) (hT : IsTree l) :
    Calls Tryz.prog 196 #[.slice A n c] w (RetIs (parL l) w) := by
  have hn : n ≤ 200 := by have := hT.1; rw [h.len] at this; exact this
  have H := Lib.hid h
  have Hlen := Lib.hid h.len
  have HCH := Lib.hid (CheckS_is A n c l w h (by omega) 0 (chkS_zero.2 hT))
  clear h hT
  have hmk := fun w => run_makeI (P := Tryz.prog) 46 3 Tryz.underlying46 int_info n n (Nat.le_refl _) (by omega) w
  go_enter Tryz.func196, Tryz.ntmps196
  go_wp2_with fail
  refine HCH.out.mono ?_
  rintro e w1 ⟨rfl, hb1⟩
  have HB1 := Lib.hid hb1
  have hz1 := hb1.size
  clear hb1
  go_wp2
  go_loopw [17] (fun i wr => ∃ k : Nat, k ≤ n ∧ i = .int .i64 k ∧ IB wr w1.heap.size 3 (parTo l n k) ∧ Below w.heap.size w wr) (fun i _ => n - (intOf i).toNat)
  case atStart => exact ⟨0, Nat.zero_le _, rfl, by have := IB.new w1 3 (List.replicate n 0); simpa [parTo] using this, HB1.out.alloc hz1 _⟩
  case round =>
    obtain ⟨k, hk, rfl, hib, hnx⟩ := hrel
    by_cases hlt : k < n
    · have hpar := parentOf_any A n c k l wr (H.out.below hnx) (by omega) hlt
      have HPAR := Lib.hid hpar
      have HIB := Lib.hid hib
      have HNX := Lib.hid hnx
      clear hpar hib hnx
      go_wp2_with fail
      refine HPAR.out.mono ?_
      rintro e w2 ⟨rfl, hb2⟩
      have hib2 : IB w2 w1.heap.size 3 (parTo l n k) := HIB.out.below hb2 HIB.out.lt
      have HB2 := Lib.hid (HNX.out.trans (hb2.mono HNX.out.size))
      have hl2 := parTo_length l n k (by omega)
      obtain ⟨old, hcell⟩ : ∃ old, w2.cell? ⟨w1.heap.size, k, none⟩ = some (I old) := ⟨_, by rw [hib2.cell, List.getElem?_eq_getElem (by omega)]; rfl⟩
      have hfz : w2.frozen? ⟨w1.heap.size, k, none⟩ = false := hib2.frozen k
      have HI3 : Hid (IB (w2.setCell ⟨w1.heap.size, k, none⟩ (I (par l k))) w1.heap.size 3 (parTo l n (k + 1))) := by
        show IB _ _ _ _
        rw [← parTo_set l n k hlt]
        exact hib2.set k _
      clear hb2 hib2 hl2
      go_wp2
      go_roundw
      case rel => exact ⟨k + 1, by omega, by go_num, HI3.out, HB2.out.setCell hz1 _⟩
      case measure => simp [intOf]; omega
    · have HIS : Hid (IS wr (some ⟨w1.heap.size, 0, none⟩) n n (parL l)) := by
        have e1 : parTo l n k = parL l := by
          unfold parTo parL
          rw [Hlen.out, show k = n by omega]
          simp
        rw [e1] at hib
        have hl := parL_length l
        rw [Hlen.out] at hl
        have := hib.is_ (c := n) (by omega)
        rw [hl] at this
        exact this
      have HNX := Lib.hid hnx
      clear hib hnx
      go_wp2
      go_ret2
      exact ⟨_, n, n, rfl, HIS.out, HNX.out, fun ad h => by cases h; exact hz1⟩

end Go.Proofs.YtpnjnedfcdppaaaGreatDoor

/-
  slices.IndexFunc at Spot, slices.Clone at Spot, shift.
-/
namespace Go.Proofs.YtpnjnedfcdppaaaGreatDoor
open Go.RowKit

end Go.Proofs.YtpnjnedfcdppaaaGreatDoor

/-
  shape.Turn.
-/
namespace Go.Proofs.YtpnjnedfcdppaaaGreatDoor
open Go.RowKit

end Go.Proofs.YtpnjnedfcdppaaaGreatDoor

/-
  nodeFirst; shape.Order, by way 1.
-/
namespace Go.Proofs.YtpnjnedfcdppaaaGreatDoor
open Go.RowKit

def Tr.pre : Tr → List Int
  | .nil => []
  | .node a k b => k :: (a.pre ++ b.pre)
theorem pre_length (t : Tr) : t.pre.length = t.size := by induction t <;> simp [Tr.pre, Tr.size, *]; omega

set_option maxRecDepth 100000 in
set_option maxHeartbeats 2000000 in
theorem nodeFirst_any (t : Tr) : ∀ (A : Option Addr) (n c base : Nat) (d : Int) (v : Value) (K : List Int) (w : World), PS w A n c (t.sp d) → (0 < n → ∀ ad, A = some ad → ad.block < base) → OwnI w base v K → base ≤ w.heap.size → K.length + n ≤ 1000 →
    Calls Tryz.prog 210 #[v, .slice A n c] w (RetOwn (K ++ t.pre) base w) := by
  induction t with
  | nil =>
    intro A n c base d v K w h hA hown hbase hK
    obtain rfl : n = 0 := by have := h.len; simpa [Tr.sp] using this.symm
    have HO := Lib.hid hown
    clear h hown
    go_enter Tryz.func210, Tryz.ntmps210
    go_wp2
    go_ret
    exact ⟨v, rfl, by simpa [Tr.pre] using HO.out, Below.refl _ _⟩
  | node a k b iha ihb =>
    intro A n c base d v K w h hA hown hbase hK
    have hlen : n = a.size + 1 + b.size := by rw [← h.len, sp_length]; rfl
    have hcap := h.rd.1
    have htop := topOf_any A n c _ w h (by omega) (by omega)
    rw [topR_sp] at htop
    obtain ⟨x, hx⟩ : ∃ x, a.size = x := ⟨_, rfl⟩
    have hxn : x < n := by omega
    have HL : Hid (PS w A x c (a.sp (d + 1))) := by
      have := h.take x (by omega)
      rw [← hx, (sp_parts a b k d).1] at this
      rw [← hx]
      exact this
    have HR : Hid (∀ sp c', (x + 1 < n → ∀ b off, A = some ⟨b, off, none⟩ → sp = some ⟨b, off + (x + 1) * 2, none⟩) → n - (x + 1) ≤ c' → PS w sp (n - (x + 1)) c' (b.sp (d + 1))) := fun sp c' h1 h2 => by
      have := h.drop (x + 1) (by omega) sp h1 h2
      rw [← hx, (sp_parts a b k d).2] at this
      rw [← hx]
      exact this
    obtain ⟨bb, off, rfl, hbl, hcs⟩ := h.dat (by omega)
    have hbb : bb < base := hA (by omega) _ rfl
    have HC : Hid (w.cell? ⟨bb, off + x * 2, none⟩ = some (I k)) := by
      show _ = _
      rw [(hcs x hxn).1, ← hx, (sp_root a b k d).2]
    rw [hx] at htop
    have HTOP := Lib.hid htop
    have HO := Lib.hid hown
    have IHA := Lib.hid iha
    have IHB := Lib.hid ihb
    have HX := Lib.hid hx
    have HN := Lib.hid hlen
    have hsb : n - (x + 1) = b.size := by omega
    have HSB := Lib.hid hsb
    have hnb : ((n : Int) == 0) = false := by simp; omega
    have hn1 : n ≤ 1000 := by omega
    obtain ⟨i0, hi, hz0, hz1, hz2⟩ := info_parts int_info
    have HI := Lib.hid hi
    have HZ0 := Lib.hid hz0
    have HZ1 := Lib.hid hz1
    have HZ2 := Lib.hid hz2
    clear h htop hown iha ihb hx hlen hsb hi hz0 hz1 hz2 hcs hA
    go_enter Tryz.func210, Tryz.ntmps210
    go_wp2_with fail
    refine HTOP.out.mono ?_
    rintro e w1 ⟨rfl, hb1⟩
    have hc1 : w1.cell? ⟨bb, off + x * 2, none⟩ = some (I k) := (hb1.cell (by exact hbl)).trans HC.out
    have HO1 := Lib.hid (own_below HO.out hb1)
    have hz1 : base ≤ w1.heap.size := Nat.le_trans hbase hb1.size
    have HB1 := Lib.hid (hb1.mono hbase)
    clear hb1
    go_wp2_with (first
      | (at_builtin
         refine wpList_append_own_at _ rfl (.tmp 12) (.tmp 18) 46 rfl base 3 i0 _ 1 8 Tryz.underlying46 HI.out HZ0.out HZ1.out HZ2.out rfl (by omega) v K.length (K.map I) rfl (own_below HO1.out ((Below.refl _ _).alloc (Nat.le_refl _) _)) ⟨w1.heap.size, 0, none⟩ 1 1 [I k] rfl rfl (cell_one_new _ _ _) (one_I k) (by unfold maxLen; omega) (by omega) (by simp; omega) ?_
         intro v2 w2 hown2 hgrow2 _ _)
      | fail)
    have hb2 : Below base w w2 := ((HB1.out.alloc hz1 _)).grown hgrow2 (by simp; omega) (own_ge1 HO1.out)
    have ho2 : OwnI w2 base v2 (K ++ [k]) := by
      have : (K ++ [k]).length = K.length + 1 := by simp
      unfold OwnI
      rw [this]
      simpa using hown2
    have hz2 : base ≤ w2.heap.size := Nat.le_trans hbase hb2.size
    have HB2 := Lib.hid hb2
    have HO2 := Lib.hid ho2
    clear hown2 hgrow2 hb2 ho2
    refine (IHA.out _ x c base (d + 1) v2 (K ++ [k]) w2 (HL.out.low (fun ad h => by cases h; exact hbb) HB2.out) (fun _ ad h => by cases h; exact hbb) HO2.out hz2 (by simp; omega)).mono ?_
    rintro e w3 ⟨v3, rfl, ho3, hb3⟩
    have HB3 := Lib.hid (HB2.out.trans hb3)
    have HO3 := Lib.hid ho3
    clear hb3 ho3
    go_wp2_with fail
    all_goals
      refine (IHB.out _ (n - (x + 1)) _ base (d + 1) v3 (K ++ [k] ++ a.pre) w3 ((HR.out _ _ ?hs ?hcc).low ?hlow HB3.out) (fun _ => ?hlow2) HO3.out (Nat.le_trans hbase HB3.out.size) ?hl).mono ?_
      case hs =>
        intro hlt b' off' he
        cases he
        first | rfl | (exfalso; omega)
      case hcc => omega
      case hlow => intro ad h; cases h; exact hbb
      case hlow2 => intro ad h; cases h; exact hbb
      case hl => simp [pre_length, HX.out]; omega
      rintro e w4 ⟨v4, rfl, ho4, hb4⟩
      have HB4 := Lib.hid (HB3.out.trans hb4)
      have HO4 := Lib.hid ho4
      clear hb4 ho4
      go_wp2
      go_ret
      exact ⟨v4, rfl, by simpa [Tr.pre] using HO4.out, HB4.out⟩

set_option maxRecDepth 100000 in
set_option maxHeartbeats 1000000 in
theorem Order1_ok (A : Option Addr) (n c : Nat) (l : PL) (t : Tr) (w : World) (h : PS w A n c l) (hT : IsTree l) (ht : l = t.sp 0) :
    Calls Tryz.prog 164 #[.slice A n c, I 1] w (RetIs t.pre w) := by
  have hn : n ≤ 200 := by have := hT.1; rw [h.len] at this; exact this
  have H := Lib.hid h
  have HCH := Lib.hid (CheckS_is A n c l w h (by omega) 0 (chkS_zero.2 hT))
  have HT := Lib.hid ht
  have hlow : ∀ ad, A = some ad → 0 < n → ad.block < w.heap.size := by
    intro ad e h0
    obtain ⟨b, off, e', hb, _⟩ := h.dat h0
    rw [e'] at e
    cases e
    exact hb
  have HLOW := Lib.hid hlow
  clear h hT ht hlow
  obtain ⟨O, HO, hmk⟩ : ∃ O, Hid (O = .cells ((List.replicate n (0 : Int)).map I).toArray 3) ∧ ∀ w, (Instr.makeSlice 46 (.int .i64 0) (.int .i64 (n : Int))).run Tryz.prog w = .ok (.slice (some ⟨w.heap.size, 0, none⟩) 0 n) (w.alloc O) :=
    ⟨_, Lib.hid rfl, fun w => run_makeI (P := Tryz.prog) 46 3 Tryz.underlying46 int_info 0 n (by omega) (by omega) w⟩
  go_enter Tryz.func164, Tryz.ntmps164
  go_wp2_with fail
  refine HCH.out.mono ?_
  rintro e w1 ⟨rfl, hb1⟩
  have HB1 := Lib.hid hb1
  have hz1 := hb1.size
  clear hb1
  go_wp2_with fail
  have hown : OwnI (w1.alloc O) w1.heap.size (.slice (some ⟨w1.heap.size, 0, none⟩) 0 n) [] := by
    rw [HO.out]
    exact ⟨rfl, .inr ⟨w1.heap.size, n, _, rfl, Nat.le_refl _, heap_alloc_new w1 _, Nat.zero_le _, by unfold maxLen; omega, by simp, rfl⟩⟩
  have hps := (H.out.below HB1.out).alloc O
  rw [HT.out] at hps
  refine (nodeFirst_any t A n c w1.heap.size 0 _ [] _ hps (fun h0 ad e => Nat.lt_of_lt_of_le (HLOW.out ad e h0) hz1) hown (by simp) (by simp; omega)).mono ?_
  rintro e w2 ⟨v2, rfl, ho2, hb2⟩
  obtain ⟨A2, c2, rfl, his, hge⟩ := ho2.is_
  have HB2 : Hid (Below w.heap.size w w2) := (HB1.out.alloc hz1 _).trans (hb2.mono hz1)
  have HIS := Lib.hid his
  have HGE := Lib.hid hge
  clear hps ho2 hb2 his hge hown
  go_wp2
  go_ret2
  exact ⟨A2, _, c2, rfl, HIS.out, HB2.out, fun ad h => Nat.le_trans hz1 (HGE.out ad h)⟩

end Go.Proofs.YtpnjnedfcdppaaaGreatDoor
