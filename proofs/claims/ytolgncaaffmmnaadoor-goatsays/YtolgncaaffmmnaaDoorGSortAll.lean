/-
  Joined texts: YtolgncaaffmmnaaDoorKRef2, YtolgncaaffmmnaaDoorGCheck, YtolgncaaffmmnaaDoorGSort.
-/
import Derived.Test.YtolgncaaffmmnaaDoorKPureAll
import Derived.Test.YtolgncaaffmmnaaDoorKRowsAll
import Derived.Test.YtolgncaaffmmnaaDoorKTowAll
import Derived.Test.YtolgncaaffmmnaaDoorWithoutAll
import Derived.Test.YtolgncaaffmmnaaDoorOwnAll
import Derived.Test.YtolgncaaffmmnaaDoorChecked
import Derived.Test.YtolgncaaffmmnaaDoorGPure
import Derived.Test.YtolgncaaffmmnaaDoorEqAll
import Derived.Maps.OwnSet
import Derived.Maps.AppendAt
import Derived.WalkKit
import Derived.Deep.LoopGhost
import Derived.BigQuiet
import Derived.Deep.QuietTactic
import Derived.Test.YtolgncaaffmmnaaDoorGInts
/-
  hedgref: KeysRight, SameInts, SameRows.
-/
namespace Go.Proofs.YtolgncaaffmmnaaDoor
open Go.RowKit

def lastK (l : List Int) (k : Nat) : Int := if k = 0 then -1 else l[k - 1]?.getD 0
theorem lastK_bd {l : List Int} {k : Nat} (h : okKs l k) : -1 ≤ lastK l k ∧ lastK l k ≤ 1000000 := by
  unfold lastK
  split
  · omega
  · have := (h (k - 1) (by omega)).1
    simp [kyB] at this
    omega
theorem okK_iff {l : List Int} {k : Nat} (h : okKs l k) : okK l k ↔ btwB (l[k]?.getD 0) (lastK l k + 1) 1000000 = true := by
  have hb := lastK_bd h
  by_cases h0 : k = 0
  · subst h0; simp [okK, btwB, kyB, lastK]
  · have hk : 0 < k := by omega
    have hl : lastK l k = l[k - 1]?.getD 0 := by simp [lastK, h0]
    rw [hl] at hb ⊢
    simp only [okK, btwB, kyB, decide_eq_true_eq]
    constructor
    · rintro ⟨h1, h2⟩
      have := h2 hk
      omega
    · rintro ⟨h1, h2⟩
      exact ⟨by omega, fun _ => by omega⟩

set_option maxHeartbeats 1000000 in
theorem KeysRight_any (A : Option Addr) (n c : Nat) (l : List Int) (w : World) (h : IS w A n c l) (hn : n ≤ 9223372036854775807) :
    Calls Tryd.prog 11 #[.slice A n c] w fun e w' => e = .returned (I (chkK l)) ∧ w' = w := by
  have H := Lib.hid h
  have Hlen := Lib.hid h.len
  clear h
  by_cases h200 : 200 < n
  · have HF := Lib.hid (chkK_large Hlen.out h200)
    go_enter Tryd.func11, Tryd.ntmps11
    go_wp2
    go_ret
    exact ⟨ret_int (by rw [HF.out]), rfl⟩
  · go_enter Tryd.func11, Tryd.ntmps11
    go_wp2
    go_loop [3, 11] (fun t i => ∃ k : Nat, k ≤ n ∧ i = .int .i64 k ∧ t = .int .i64 (lastK l k) ∧ okKs l k) (fun _ i => n - (intOf i).toNat)
    case atStart => exact ⟨0, Nat.zero_le _, rfl, rfl, fun i hi => absurd hi (by omega)⟩
    case round =>
      obtain ⟨k, hk, rfl, rfl, hok⟩ := hrel
      obtain ⟨hl0, hl1⟩ := lastK_bd hok
      by_cases hlt : k < n
      · have hkl : k < l.length := by have := Hlen.out; omega
        obtain ⟨b, off, rfl, hb, hc0⟩ := H.out.cell_at hlt
        have hiff := okK_iff hok
        simp only [List.getElem?_eq_getElem hkl, Option.getD_some] at hiff
        cases hkey : btwB l[k] (lastK l k + 1) 1000000 with
        | false =>
          have HF : Hid (chkK l = 3) := chkK_bad Hlen.out h200 hlt fun h => by
            have := hiff.1 h
            rw [hkey] at this
            cases this
          have HK := Lib.hid hkey
          clear hkey hok hiff
          go_wp2_with (go_at_call 15; refine (Between_f _ _ _ _ HK.out).mono ?_; rintro e w' ⟨rfl, rfl⟩)
          go_ret
          exact ⟨ret_int (by rw [HF.out]), rfl⟩
        | true =>
          have HO : Hid (okKs l (k + 1)) := okKs_succ hok (hiff.2 hkey)
          have HL : Hid (lastK l (k + 1) = l[k]) := by show lastK l (k + 1) = l[k]; simp [lastK, List.getElem?_eq_getElem hkl]
          have HK := Lib.hid hkey
          clear hkey hok hiff
          go_wp2_with (go_at_call 15; refine (Between_t _ _ _ _ HK.out).mono ?_; rintro e w' ⟨rfl, rfl⟩)
          go_round
          case rel => exact ⟨k + 1, by omega, by go_num, by rw [HL.out], HO.out⟩
          case measure => simp [intOf]; omega
      · have HF : Hid (chkK l = 0) := chkK_good Hlen.out h200 (by rw [show n = k by omega]; exact hok)
        clear hok
        go_wp2
        go_ret
        exact ⟨ret_int (by rw [HF.out]), rfl⟩

theorem IS.drewN {w : World} {n c : Nat} {A : Option Addr} {l : List Int} (h : IS w A n c l) (k : Nat) : IS (w.drewN k) A n c l := ⟨h.len, h.rd⟩
set_option maxRecDepth 100000 in
set_option maxHeartbeats 1000000 in
theorem ksameInts_t (A A' : Option Addr) (n c c' : Nat) (l : List Int) (w : World) (h : IS w A n c l) (h' : IS w A' n c' l) (hn : n ≤ 1000) :
    Calls Tryd.prog 23 #[.slice A n c, .slice A' n c'] w fun e w' => e = .returned (.bool true) ∧ ∃ q, w' = w.drewN q := by
  have H := Lib.hid h
  have H' := Lib.hid h'
  have HL := Lib.hid h.len
  clear h h'
  have hne : ((n : Int) != (n : Int)) = false := by simp
  go_enter Tryd.func23, Tryd.ntmps23
  go_wp2
  go_loopw [13] (fun i wr => ∃ k q : Nat, k ≤ n ∧ i = .int .i64 k ∧ wr = w.drewN q) (fun i _ => n - (intOf i).toNat)
  case atStart => exact ⟨0, 0, Nat.zero_le _, rfl, rfl⟩
  case round =>
    obtain ⟨k, q, hk, rfl, rfl⟩ := hrel
    by_cases hlt : k < n
    · obtain ⟨b, off, rfl, hb, hc0⟩ := H.out.cell_at hlt
      obtain ⟨b', off', rfl, hb', hc0'⟩ := H'.out.cell_at hlt
      obtain ⟨x, hx⟩ : ∃ x, l[k]'(by rw [HL.out]; exact hlt) = x := ⟨_, rfl⟩
      rw [hx] at hc0 hc0'
      have hne2 : (x != x) = false := by simp
      clear hx
      go_wp2
      go_quiet (fail)
      go_wp2
      go_roundw
      case rel => exact ⟨k + 1, _, by omega, by go_num, rfl⟩
      case measure => simp [intOf]; omega
    · go_wp2
      go_ret
      exact ⟨rfl, q, rfl⟩

end Go.Proofs.YtolgncaaffmmnaaDoor

/-
  check: may these keys come? What was seen is kept in a map of the call's own.
-/
namespace Go.Proofs.YtolgncaaffmmnaaDoor
open Go.RowKit Go.Maps

theorem keyed_int : Keyed Tryd.prog 3 := int_keyed Tryd.underlying3
theorem zero_bool (w : World) : (zeroValue 4).run Tryd.prog w = .ok (.bool false) w := by kernel_rfl
theorem elem_bool_inv {P : Program} {e : TypeId} (he : P.underlying e = some .bool) {v : Value} {z : DataW Unit × List MemPlace} (h : plainElem P e v = some z) : ∃ x, v = .bool x ∧ z = (.lit (.bool x), []) := by
  unfold plainElem at h
  rw [he] at h
  cases v <;> simp at h
  exact ⟨_, rfl, h.symm⟩

/-- the keys that were seen -/
def Sd (l : List Int) : DataW Unit := l.foldl (fun D x => D.put (.int .i64 x) (.lit (.bool true))) (.map [])
theorem Sd_snoc (l : List Int) (x : Int) : Sd (l ++ [x]) = (Sd l).put (.int .i64 x) (.lit (.bool true)) := by simp [Sd]
theorem fold_at (x : Int) (z : DataW Unit) : ∀ (l : List Int) (D : DataW Unit), IsMap D →
    (l.foldl (fun D x => D.put (.int .i64 x) (.lit (.bool true))) D).atKey (.int .i64 x) z = if x ∈ l then .lit (.bool true) else D.atKey (.int .i64 x) z
  | [], D, _ => by simp
  | y :: l, D, hD => by
    rw [List.foldl_cons, fold_at x z l _ (hD.put _ _)]
    by_cases h1 : x ∈ l
    · simp [h1]
    · by_cases h2 : x = y
      · subst h2
        simp only [List.mem_cons, h1, or_false, if_true, if_false]
        exact atKey_put_same hD (by first | trivial | simp [WideAt.IsKeyLit]) _ _
      · simp only [List.mem_cons, h1, h2, or_false, if_false]
        exact atKey_put_other (by simp [h2]) _ _
theorem Sd_at (l : List Int) (x : Int) : (Sd l).atKey (.int .i64 x) (.lit (.bool false)) = .lit (.bool (decide (x ∈ l))) := by
  unfold Sd
  rw [fold_at x _ l _ isMap_empty]
  by_cases h : x ∈ l <;> simp [h]
  rfl
theorem wf_key {x : Int} (h : 0 ≤ x ∧ x ≤ 1000000) : (Lit.int .i64 x).wf = true := by
  have h1 : IntKind.i64.min = -9223372036854775808 := by decide
  have h2 : IntKind.i64.max = 9223372036854775807 := by decide
  simp [Lit.wf, h1, h2]
  omega

theorem take_snoc {l : List Int} {k : Nat} (h : k < l.length) : l.take (k + 1) = l.take k ++ [l[k]] := List.take_succ_eq_append_getElem h
theorem nodup_snoc {l : List Int} {x : Int} (h : l.Nodup) (hx : x ∉ l) : (l ++ [x]).Nodup := by
  rw [List.nodup_append]
  exact ⟨h, by simp, fun a ha b hb => by simp only [List.mem_singleton] at hb; subst hb; exact fun e => hx (by rw [← e]; exact ha)⟩
theorem not_nodup {l : List Int} {k : Nat} (h : k < l.length) (hx : l[k] ∈ l.take k) : ¬ l.Nodup := fun hn => by
  have h2 : (l.take (k + 1)).Nodup := hn.sublist (List.take_sublist _ _)
  rw [take_snoc h, List.nodup_append] at h2
  exact h2.2.2 _ hx _ (by simp) rfl
theorem all_take {l : List Int} {p : Int → Prop} {k : Nat} (h : ∀ x ∈ l.take k, p x) (hk : k < l.length) (hp : p l[k]) : ∀ x ∈ l.take (k + 1), p x := by
  rw [take_snoc hk]
  intro x hx
  rcases List.mem_append.1 hx with e | e
  · exact h x e
  · simp only [List.mem_singleton] at e
    rw [e]; exact hp

end Go.Proofs.YtolgncaaffmmnaaDoor

/-
  sorted, Sort: by the first one; how often two were held against each other.
-/
namespace Go.Proofs.YtolgncaaffmmnaaDoor
open Go.RowKit

def RetGs (L : List Int) (k : Int) (w : World) (e : Ending) (w' : World) : Prop := ∃ A n c, e = .returned (.tuple #[.slice A n c, I k]) ∧ IS w' A n c L ∧ Below w.heap.size w w'

theorem gown_lt {w : World} {base e s n : Nat} {v : Value} {xs : List Value} (h : w.ownsRow base e s v n xs) : ∀ g, v.ownBlock = some g → g < w.heap.size := by
  intro g hg
  rcases h.2 with ⟨rfl, _⟩ | ⟨g', cap, cur, rfl, _, hh, _⟩
  · simp [Value.ownBlock] at hg
  · simp [Value.ownBlock] at hg
    subst hg
    exact (Array.getElem?_eq_some_iff.1 hh).1
/-- two rows lie in two blocks -/
def Apt (u v : Value) : Prop := ∀ g, u.ownBlock = some g → v.ownBlock ≠ some g
theorem Apt.symm {u v : Value} (h : Apt u v) : Apt v u := fun g hg hu => h g hu hg
theorem Apt.or {u v : Value} (h : Apt u v) : u.ownBlock = none ∨ u.ownBlock ≠ v.ownBlock := by
  cases hu : u.ownBlock with
  | none => exact .inl rfl
  | some g => exact .inr fun e => h g hu e.symm
/-- one more onto the row u, beside the row v -/
theorem app_beside {w w' : World} {base : Nat} {u u' v : Value} {L : List Int} (hv : OwnI w base v L) (ha : Apt u v) (o : Obj) (hg : (w.alloc o).grownBy w' u.ownBlock) (hat : u'.ownBlock = u.ownBlock ∨ u'.ownBlock = some (w.alloc o).heap.size) :
    OwnI w' base v L ∧ Apt u' v := by
  have hv1 : (w.alloc o).ownsRow base 3 1 v L.length (L.map I) := own_below hv ((Below.refl _ _).alloc (Nat.le_refl _) _)
  refine ⟨hv1.kept hg ha.symm.or, fun g hgu hgv => ?_⟩
  rcases hat with e | e
  · exact ha g (by rw [← e]; exact hgu) hgv
  · have := gown_lt hv g hgv
    rw [e] at hgu
    simp at hgu
    omega
theorem lo_snoc (x y : Int) (l : List Int) : lo x (l ++ [y]) = if y < x then lo x l ++ [y] else lo x l := by
  unfold lo
  by_cases h : y < x <;> simp [h]
theorem hi_snoc (x y : Int) (l : List Int) : hi x (l ++ [y]) = if y < x then hi x l else hi x l ++ [y] := by
  unfold hi
  by_cases h : y < x <;> simp [h]
theorem rsi_three {w : World} {g t : Nat} {a b c : SlI} (hh : w.heap[g]? = some (.cells #[a.val, b.val, c.val] t (0, 0))) (ha : a.ok w) (hb : b.ok w) (hc : c.ok w) : RSI w (some ⟨g, 0, none⟩) 3 3 [a, b, c] := by
  refine ⟨rfl, ⟨Nat.le_refl _, fun _ => ⟨g, 0, rfl, (Array.getElem?_eq_some_iff.1 hh).1, fun i hi j hj => ?_⟩⟩, fun s hs => ?_⟩
  · obtain rfl : j = 0 := by omega
    match i, hi with
    | 0, _ => simp [World.cell?, hh]
    | 1, _ => simp [World.cell?, hh]
    | 2, _ => simp [World.cell?, hh]
  · simp at hs
    rcases hs with rfl | rfl | rfl
    · exact ha
    · exact hb
    · exact hc

def RetGs3 (L : List Int) (k : Int) (w : World) (e : Ending) (w' : World) : Prop := ∃ A n c, e = .returned (.tuple #[.slice A n c, I k, I 0]) ∧ IS w' A n c L ∧ Below w.heap.size w w'
end Go.Proofs.YtolgncaaffmmnaaDoor
