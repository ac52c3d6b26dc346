/-
  Joined texts: YtolfpjleckckiaaQNearW, YtolfpjleckckiaaGSort.
-/
import Derived.Test.YtolfpjleckckiaaQHMap
import Derived.Test.YtolfpjleckckiaaDo
import Derived.Test.YtolfpjleckckiaaGInts
import Derived.Test.YtolfpjleckckiaaGCheck
/-
  hedgref.HalfAnswered's near: the nearest one, looked for among all in whatever order.
-/
namespace Go.Proofs.Ytolfpjleckckiaa
open Go.RowKit Go.Maps

/-- the variable that holds the map -/
def QVar (w : World) (g b : Nat) : Prop := w.heap[g]? = some (.cells #[.map (some b)] 61 (0, 0))
theorem QVar.cell {w : World} {g b : Nat} (h : QVar w g b) : w.cell? ⟨g, 0, none⟩ = some (.map (some b)) := by simp [World.cell?, show w.heap[g]? = _ from h]
theorem QVar.lt {w : World} {g b : Nat} (h : QVar w g b) : g < w.heap.size := (Array.getElem?_eq_some_iff.1 h).1
theorem QVar.keep {w w' : World} {g b : Nat} (h : QVar w g b) (e : w'.heap[g]? = w.heap[g]?) : QVar w' g b := e.trans h

/-- step by step: what is the best so far -/
theorem nst_take {key step b k : Int} {is : Bool} (h : 0 < (k - key) * step ∧ (is = false ∨ 0 < (b - k) * step)) : nst key step (b, is) k = (k, true) := by unfold nst; rw [if_pos h]
theorem nst_stay {key step b k : Int} {is : Bool} (h : ¬ (0 < (k - key) * step ∧ (is = false ∨ 0 < (b - k) * step))) : nst key step (b, is) k = (b, is) := by unfold nst; rw [if_neg h]
theorem qmul_bd {x y s : Int} (hs : s = 1 ∨ s = -1) (hx : 0 ≤ x ∧ x ≤ 65535) (hy : 0 ≤ y ∧ y ≤ 65535) : -65535 ≤ (x - y) * s ∧ (x - y) * s ≤ 65535 := by
  rcases hs with rfl | rfl <;> omega

set_option maxRecDepth 100000 in
set_option maxHeartbeats 4000000 in
theorem near_any (key step : Int) (gv b T : Nat) (l : List Int) (w : World) (hv : QVar w gv b) (hm : HMb w b T l) (hT : T ≤ 1000) (hl : ∀ x ∈ l, 0 ≤ x ∧ x ≤ 65535) (hk : 0 ≤ key ∧ key ≤ 65535) (hs : step = 1 ∨ step = -1) :
    Calls Try.prog 26 #[I key, I step, .pointer (some ⟨gv, 0, none⟩)] w fun e w' =>
      (∃ seen : List Int, (∀ z, z ∈ seen ↔ z ∈ l) ∧ e = .returned (anV ⟨0, (seen.foldl (nst key step) (0, false)).1, 0, (seen.foldl (nst key step) (0, false)).2⟩)) ∧ Below w.heap.size w w' := by
  obtain ⟨D, hown, hmd⟩ := hm
  have HMD := Lib.hid hmd
  have hvl := hv.lt
  have hbl := hown.lt
  have c0 : (w.alloc ansO).cell? ⟨gv, 0, none⟩ = some (.map (some b)) := (World.cell?_alloc_old _ _ _ (Nat.ne_of_lt hvl)).trans hv.cell
  have hown1 : (w.alloc ansO).ownsMap Try.prog 3 (plainElem Try.prog 3) b T D := hown.alloc _
  have HOW := Lib.hid hown1
  have HAB := Lib.hid (AB.new w)
  have HL := Lib.hid hl
  clear hmd hown hv hvl hl
  have hsz : (w.alloc ansO).heap.size = w.heap.size + 1 := by simp
  go_enter Try.func26, Try.ntmps26
  go_wp2_with (first
    | (at_range; refine wpList_range_own _ rfl _ 61 rfl 3 3 keyed_int Try.underlying61 (plainElem Try.prog 3) b T D rfl HOW.out ?_; intro w0 hrg0 hg0 hs0)
    | fail)
  go_frame
  simp only [World.size_alloc]
  have HB0 : Hid (Below w.heap.size w w0) := Below.grown ((Below.refl _ _).alloc (Nat.le_refl _) _) hg0 (by simp) (fun i hi => by cases hi)
  have HA0 : Hid (AB w0 w.heap.size) := by
    have := hg0.block w.heap.size (by simp) (by simp)
    exact this.trans HAB.out
  rw [World.size_alloc] at hrg0 hs0
  have HRG0 := Lib.hid hrg0
  clear hrg0 hg0 HAB
  go_loopw [6, 7, 8] (fun bst is _ wr => ∃ (left : Lit → Bool) (cnt : Nat) (seen : List Int), wr.ranges Try.prog 3 (plainElem Try.prog 3) b (w.heap.size + 1) T D left cnt ∧ QSn left l seen ∧ bst = I (seen.foldl (nst key step) (0, false)).1 ∧ is = .bool (seen.foldl (nst key step) (0, false)).2 ∧ (0 ≤ (seen.foldl (nst key step) (0, false)).1 ∧ (seen.foldl (nst key step) (0, false)).1 ≤ 65535) ∧ Below w.heap.size w wr ∧ AB wr w.heap.size) (fun _ _ _ wr => wr.rangeLeft b (w.heap.size + 1))
  case atStart => exact ⟨has D, Maps.size D, [], by simpa using HRG0.out, QSn.start HMD.out, rfl, rfl, ⟨by simp, by simp⟩, HB0.out, HA0.out⟩
  case round =>
    obtain ⟨left, cnt, seen, hrg, hsn, rfl, rfl, hbd, hbel, hab⟩ := hrel
    have HRG := Lib.hid hrg
    have HSN := Lib.hid hsn
    have HBE := Lib.hid hbel
    have HAB := Lib.hid hab
    obtain ⟨st, hst⟩ : ∃ st, seen.foldl (nst key step) (0, false) = st := ⟨_, rfl⟩
    rw [hst] at hbd ⊢
    have HST := Lib.hid hst
    obtain ⟨bst, is⟩ := st
    simp only at hbd ⊢
    clear hrg hsn hbel hab hst
    go_wp2_with (first
      | (at_next; refine wpList_next_ranges_ii _ rfl _ rfl 3 3 .i64 .i64 keyed_int Try.underlying3 Try.underlying3 b (w.heap.size + 1) T D left cnt rfl HRG.out ?_ ?_)
      | fail)
    · intro hc0 hl0
      have HAL := Lib.hid (HSN.out.all hl0)
      obtain ⟨⟨a0, a1, a2, a3⟩, f0, f1, f2, f3⟩ := HAB.out.facts
      clear hl0
      go_wp2
      refine bodyPost_ret (v := anV ⟨0, bst, 0, is⟩) (by simp [results, Try.results26, go_sem, a0, a1, a2, a3]) rfl ?_
      refine ⟨⟨seen, HAL.out, by rw [HST.out]⟩, ?_⟩
      exact below_st4 HBE.out (Nat.le_refl _) _ _ _ _
    · intro x c w1 cnt1 hwx hwc hlx hat hrg1 hlt hg1 hs1 hen
      have hxl := qmet HMD.out hat
      have hxb := HL.out x hxl
      have HR1 := Lib.hid hrg1
      have HS1 := Lib.hid (HSN.out.step hxl hlx)
      have hsz1 := HBE.out.size
      have HB1 : Hid (Below w.heap.size w w1) := Below.grown HBE.out hg1 (by omega) (fun i hi => by cases hi; omega)
      have HA1 : Hid (AB w1 w.heap.size) := (hg1.block w.heap.size (by rw [← hs1]; have := HR1.out.lt; omega) (by simp)).trans HAB.out
      have e1 : IntKind.i64.wrap (x - key) = x - key := IntWalk.i64_in _ (by omega)
      have e3 : IntKind.i64.wrap (bst - x) = bst - x := IntWalk.i64_in _ (by omega)
      have m1 := qmul_bd hs hxb hk
      have m2 := qmul_bd hs hbd hxb
      obtain ⟨p1, hp1⟩ : ∃ p1, (x - key) * step = p1 := ⟨_, rfl⟩
      obtain ⟨p2, hp2⟩ : ∃ p2, (bst - x) * step = p2 := ⟨_, rfl⟩
      have e2 : IntKind.i64.wrap ((x - key) * step) = p1 := by rw [hp1]; exact IntWalk.i64_in _ (by omega)
      have e4 : IntKind.i64.wrap ((bst - x) * step) = p2 := by rw [hp2]; exact IntWalk.i64_in _ (by omega)
      have HP1 := Lib.hid hp1
      have HP2 := Lib.hid hp2
      clear hat hrg1 hg1 hp1 hp2 m1 m2 hwc
      by_cases g1 : 0 < p1
      · cases is with
        | false =>
          have HN : Hid ((seen ++ [x]).foldl (nst key step) (0, false) = (x, true)) := by show _ = _; rw [List.foldl_append, HST.out]; exact nst_take ⟨by rw [HP1.out]; exact g1, .inl rfl⟩
          go_wp2
          go_roundw
          case rel => exact ⟨_, cnt1, seen ++ [x], HR1.out, HS1.out, by rw [HN.out], by rw [HN.out], by rw [HN.out]; exact hxb, HB1.out, HA1.out⟩
          case measure => rw [HR1.out.left_eq, HRG.out.left_eq]; omega
        | true =>
          by_cases g2 : 0 < p2
          · have g3 : ¬ ¬ 0 < p2 := fun e => e g2
            clear g3
            have HN : Hid ((seen ++ [x]).foldl (nst key step) (0, false) = (x, true)) := by show _ = _; rw [List.foldl_append, HST.out]; exact nst_take ⟨by rw [HP1.out]; exact g1, .inr (by rw [HP2.out]; exact g2)⟩
            go_wp2
            go_roundw
            case rel => exact ⟨_, cnt1, seen ++ [x], HR1.out, HS1.out, by rw [HN.out], by rw [HN.out], by rw [HN.out]; exact hxb, HB1.out, HA1.out⟩
            case measure => rw [HR1.out.left_eq, HRG.out.left_eq]; omega
          · skip
            have HN : Hid ((seen ++ [x]).foldl (nst key step) (0, false) = (bst, true)) := by show _ = _; rw [List.foldl_append, HST.out]; exact nst_stay (fun e => by rcases e.2 with h | h; cases h; rw [HP2.out] at h; exact g2 h)
            go_wp2
            go_roundw
            case rel => exact ⟨_, cnt1, seen ++ [x], HR1.out, HS1.out, by rw [HN.out], by rw [HN.out], by rw [HN.out]; exact hbd, HB1.out, HA1.out⟩
            case measure => rw [HR1.out.left_eq, HRG.out.left_eq]; omega
      · skip
        have HN : Hid ((seen ++ [x]).foldl (nst key step) (0, false) = (bst, is)) := by show _ = _; rw [List.foldl_append, HST.out]; exact nst_stay (fun e => by have h := e.1; rw [HP1.out] at h; exact g1 h)
        go_wp2
        go_roundw
        case rel => exact ⟨_, cnt1, seen ++ [x], HR1.out, HS1.out, by rw [HN.out], by rw [HN.out], by rw [HN.out]; exact hbd, HB1.out, HA1.out⟩
        case measure => rw [HR1.out.left_eq, HRG.out.left_eq]; omega
theorem near_next {key : Int} {gv b T : Nat} {l : List Int} (w : World) (hv : QVar w gv b) (hm : HMb w b T l) (hT : T ≤ 1000) (hl : Hk l) (hk : 0 ≤ key ∧ key ≤ 65535) :
    Calls Try.prog 26 #[I key, I 1, .pointer (some ⟨gv, 0, none⟩)] w fun e w' => e = .returned (anV (hanO (qnx key l))) ∧ Below w.heap.size w w' := by
  refine (near_any key 1 gv b T l w hv hm hT hl.2 hk (.inl rfl)).mono ?_
  rintro e w' ⟨⟨seen, hs, rfl⟩, hb⟩
  refine ⟨?_, hb⟩
  rw [near_up hl.1 hs]
  cases qnx key l <;> rfl
theorem near_prev {key : Int} {gv b T : Nat} {l : List Int} (w : World) (hv : QVar w gv b) (hm : HMb w b T l) (hT : T ≤ 1000) (hl : Hk l) (hk : 0 ≤ key ∧ key ≤ 65535) :
    Calls Try.prog 26 #[I key, I (-1), .pointer (some ⟨gv, 0, none⟩)] w fun e w' => e = .returned (anV (hanO (qpv key l))) ∧ Below w.heap.size w w' := by
  refine (near_any key (-1) gv b T l w hv hm hT hl.2 hk (.inr rfl)).mono ?_
  rintro e w' ⟨⟨seen, hs, rfl⟩, hb⟩
  refine ⟨?_, hb⟩
  rw [near_down hl.1 hs]
  cases qpv key l <;> rfl

end Go.Proofs.Ytolfpjleckckiaa

/-
  sorted, Sort: by the first one; how often two were held against each other.
-/
namespace Go.Proofs.Ytolfpjleckckiaa
open Go.RowKit

def RetGs (L : List Int) (k : Int) (w : World) (e : Ending) (w' : World) : Prop := ∃ A n c, e = .returned (.tuple #[.slice A n c, I k]) ∧ IS w' A n c L ∧ Below w.heap.size w w'

theorem gown_lt {w : World} {base e s n : Nat} {v : Value} {xs : List Value} (h : w.ownsRow base e s v n xs) : ∀ g, v.ownBlock = some g → g < w.heap.size := by
  intro g hg
  rcases h.2 with ⟨rfl, _⟩ | ⟨g', cap, cur, rfl, _, hh, _⟩
  · simp [Value.ownBlock] at hg
  · simp [Value.ownBlock] at hg
    subst hg
    exact (Array.getElem?_eq_some_iff.1 hh).1
/-- two rows lie in two blocks -/
def Apt (u v : Value) : Prop := ∀ g, u.ownBlock = some g → v.ownBlock ≠ some g
theorem Apt.symm {u v : Value} (h : Apt u v) : Apt v u := fun g hg hu => h g hu hg
theorem Apt.or {u v : Value} (h : Apt u v) : u.ownBlock = none ∨ u.ownBlock ≠ v.ownBlock := by
  cases hu : u.ownBlock with
  | none => exact .inl rfl
  | some g => exact .inr fun e => h g hu e.symm
/-- one more onto the row u, beside the row v -/
theorem app_beside {w w' : World} {base : Nat} {u u' v : Value} {L : List Int} (hv : OwnI w base v L) (ha : Apt u v) (o : Obj) (hg : (w.alloc o).grownBy w' u.ownBlock) (hat : u'.ownBlock = u.ownBlock ∨ u'.ownBlock = some (w.alloc o).heap.size) :
    OwnI w' base v L ∧ Apt u' v := by
  have hv1 : (w.alloc o).ownsRow base 3 1 v L.length (L.map I) := own_below hv ((Below.refl _ _).alloc (Nat.le_refl _) _)
  refine ⟨hv1.kept hg ha.symm.or, fun g hgu hgv => ?_⟩
  rcases hat with e | e
  · exact ha g (by rw [← e]; exact hgu) hgv
  · have := gown_lt hv g hgv
    rw [e] at hgu
    simp at hgu
    omega
theorem lo_snoc (x y : Int) (l : List Int) : lo x (l ++ [y]) = if y < x then lo x l ++ [y] else lo x l := by
  unfold lo
  by_cases h : y < x <;> simp [h]
theorem hi_snoc (x y : Int) (l : List Int) : hi x (l ++ [y]) = if y < x then hi x l else hi x l ++ [y] := by
  unfold hi
  by_cases h : y < x <;> simp [h]
theorem rsi_three {w : World} {g t : Nat} {a b c : SlI} (hh : w.heap[g]? = some (.cells #[a.val, b.val, c.val] t (0, 0))) (ha : a.ok w) (hb : b.ok w) (hc : c.ok w) : RSI w (some ⟨g, 0, none⟩) 3 3 [a, b, c] := by
  refine ⟨rfl, ⟨Nat.le_refl _, fun _ => ⟨g, 0, rfl, (Array.getElem?_eq_some_iff.1 hh).1, fun i hi j hj => ?_⟩⟩, fun s hs => ?_⟩
  · obtain rfl : j = 0 := by omega
    match i, hi with
    | 0, _ => simp [World.cell?, hh]
    | 1, _ => simp [World.cell?, hh]
    | 2, _ => simp [World.cell?, hh]
  · simp at hs
    rcases hs with rfl | rfl | rfl
    · exact ha
    · exact hb
    · exact hc

def RetGs3 (L : List Int) (k : Int) (w : World) (e : Ending) (w' : World) : Prop := ∃ A n c, e = .returned (.tuple #[.slice A n c, I k, I 0]) ∧ IS w' A n c L ∧ Below w.heap.size w w'
end Go.Proofs.Ytolfpjleckckiaa
