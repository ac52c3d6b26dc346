/-
  Joined texts: YtolgncaaffmmnaaDoorKChk, YtolgncaaffmmnaaDoorKTow.
-/
import Derived.Test.YtolgncaaffmmnaaDoorKPureAll
import Derived.Test.YtolgncaaffmmnaaDoorEqAll
import Derived.Test.YtolgncaaffmmnaaDoorAppPAll
/-
  WHICH LISTS ARE KEYS: skip.isKey, skip.check.
-/
namespace Go.Proofs.YtolgncaaffmmnaaDoor
open Go.RowKit

set_option maxHeartbeats 400000 in
theorem isKeyS_any (k : Int) (w : World) : Calls Tryd.prog 60 #[I k] w fun e w' => e = .returned (.bool (kyB k)) ∧ w' = w := by
  by_cases h0 : 0 ≤ k
  · by_cases h1 : k ≤ 1000000
    · have hk : kyB k = true := by simp [kyB, h0, h1]
      go_enter Tryd.func60, Tryd.ntmps60
      go_wp2
      go_ret
      exact ⟨by simp [hk], rfl⟩
    · have hk : kyB k = false := by simp [kyB, h0, h1]
      go_enter Tryd.func60, Tryd.ntmps60
      go_wp2
      go_ret
      exact ⟨by simp [hk], rfl⟩
  · have hk : kyB k = false := by simp [kyB, h0]
    go_enter Tryd.func60, Tryd.ntmps60
    go_wp2
    go_ret
    exact ⟨by simp [hk], rfl⟩
theorem isKeyS_is (k : Int) (w : World) (b : Bool) (h : kyB k = b) : Calls Tryd.prog 60 #[I k] w fun e w' => e = .returned (.bool b) ∧ w' = w := h ▸ isKeyS_any k w

theorem chkK_bad {l : List Int} {n k : Nat} (hl : l.length = n) (hn : ¬ 200 < n) (hk : k < n) (h : ¬ okK l k) : chkK l = 3 := by
  unfold chkK
  rw [if_neg (by omega), if_neg]
  intro ha
  exact h (ha k (by omega))
theorem chkK_good {l : List Int} {n : Nat} (hl : l.length = n) (hn : ¬ 200 < n) (h : okKs l n) : chkK l = 0 := by
  unfold chkK
  rw [if_neg (by omega), if_pos (by rw [hl]; exact h)]
theorem chkK_large {l : List Int} {n : Nat} (hl : l.length = n) (hn : 200 < n) : chkK l = 2 := by
  unfold chkK
  rw [if_pos (by omega)]

set_option maxHeartbeats 1000000 in
theorem checkS_any (A : Option Addr) (n c : Nat) (l : List Int) (w : World) (h : IS w A n c l) (hn : n ≤ 9223372036854775807) :
    Calls Tryd.prog 44 #[.slice A n c] w fun e w' => e = .returned (I (chkK l)) ∧ Below w.heap.size w w' := by
  have H := Lib.hid h
  have Hlen := Lib.hid h.len
  clear h
  by_cases h200 : 200 < n
  · have HF := Lib.hid (chkK_large Hlen.out h200)
    go_enter Tryd.func44, Tryd.ntmps44
    go_wp2
    go_ret
    exact ⟨ret_int (by rw [HF.out]), Below.refl _ _⟩
  · go_enter Tryd.func44, Tryd.ntmps44
    go_wp2
    go_loopw [10] (fun i wr => ∃ k : Nat, k ≤ n ∧ i = .int .i64 k ∧ okKs l k ∧ Below w.heap.size w wr) (fun i _ => n - (intOf i).toNat)
    case atStart => exact ⟨0, Nat.zero_le _, rfl, fun i hi => absurd hi (by omega), Below.refl _ _⟩
    case round =>
      obtain ⟨k, hk, rfl, hok, hnx⟩ := hrel
      have hsz := hnx.size
      by_cases hlt : k < n
      · obtain ⟨b, off, rfl, hb, hc⟩ := H.out.at_ (by omega)
        have hkl : k < l.length := by have := Hlen.out; omega
        have hc0 : wr.cell? ⟨b, off + k, none⟩ = some (I l[k]) := (hnx.cell (by exact hb)).trans (hc k hlt)
        have hbwr : b < wr.heap.size := by omega
        cases hkey : kyB l[k] with
        | false =>
          have HF : Hid (chkK l = 3) := chkK_bad Hlen.out h200 hlt fun h => by
            have := h.1
            simp [List.getElem?_eq_getElem hkl, hkey] at this
          have HK := Lib.hid hkey
          clear hkey hc hok
          go_wp2_with (go_at_call 60; refine (isKeyS_is _ _ _ HK.out).mono ?_; rintro e w' ⟨rfl, rfl⟩)
          go_ret
          exact ⟨ret_int (by rw [HF.out]), hnx⟩
        | true =>
          by_cases hk0 : 0 < k
          · have hkl1 : k - 1 < l.length := by omega
            have hp0 : wr.cell? ⟨b, off + (k - 1), none⟩ = some (I l[k - 1]) := (hnx.cell (by exact hb)).trans (hc (k - 1) (by omega))
            by_cases hge : l[k] ≤ l[k - 1]
            · have HF : Hid (chkK l = 3) := chkK_bad Hlen.out h200 hlt fun h => by
                have := h.2 hk0
                simp [List.getElem?_eq_getElem hkl, List.getElem?_eq_getElem hkl1] at this
                omega
              have HK := Lib.hid hkey
              clear hkey hc hok
              go_wp2_with (go_at_call 60; refine (isKeyS_is _ _ _ HK.out).mono ?_; rintro e w' ⟨rfl, rfl⟩)
              go_ret
              exact ⟨ret_int (by rw [HF.out]), hnx⟩
            · have HO : Hid (okKs l (k + 1)) := okKs_succ hok ⟨by simpa [List.getElem?_eq_getElem hkl] using hkey, fun _ => by simp [List.getElem?_eq_getElem hkl, List.getElem?_eq_getElem hkl1]; omega⟩
              have HK := Lib.hid hkey
              clear hkey hc hok
              go_wp2_with (go_at_call 60; refine (isKeyS_is _ _ _ HK.out).mono ?_; rintro e w' ⟨rfl, rfl⟩)
              go_roundw
              case rel => exact ⟨k + 1, by omega, by go_num, HO.out, hnx⟩
              case measure => simp [intOf]; omega
          · have HO : Hid (okKs l (k + 1)) := okKs_succ hok ⟨by simpa [List.getElem?_eq_getElem hkl] using hkey, fun h => absurd h hk0⟩
            have HK := Lib.hid hkey
            clear hkey hc hok
            have hd : decide (0 < k) = false := by simpa using hk0
            go_wp2_with (go_at_call 60; refine (isKeyS_is _ _ _ HK.out).mono ?_; rintro e w' ⟨rfl, rfl⟩)
            go_roundw
            case rel => exact ⟨k + 1, by omega, by go_num, HO.out, hnx⟩
            case measure => simp [intOf]; omega
      · have HF : Hid (chkK l = 0) := chkK_good Hlen.out h200 (by rw [show n = k by omega]; exact hok)
        clear hok
        go_wp2
        go_ret
        exact ⟨ret_int (by rw [HF.out]), hnx⟩

end Go.Proofs.YtolgncaaffmmnaaDoor

/-
  THE TOWER: twelve rows of the call's own in one block. Nothing is walked here.
-/
namespace Go.Proofs.YtolgncaaffmmnaaDoor
open Go.RowKit

def rowAt (vs : List Value) (i : Nat) : Value := vs[i]?.getD (.slice none 0 0)
/-- the block g has twelve rows of numbers, each of the call's own, none on another -/
structure Tw (w : World) (base g t : Nat) (vs : List Value) (rows : Nat → List Int) : Prop where
  len : vs.length = 12
  low : g < base
  blk : w.heap[g]? = some (.cells vs.toArray t (0, 0))
  own : ∀ i, i < 12 → OwnI w base (rowAt vs i) (rows i)
  ne : ∀ i j b, i < 12 → j < 12 → (rowAt vs i).ownBlock = some b → (rowAt vs j).ownBlock = some b → i = j
theorem Tw.lt {w : World} {base g t : Nat} {vs : List Value} {rows : Nat → List Int} (h : Tw w base g t vs rows) : g < w.heap.size := by
  rcases Nat.lt_or_ge g w.heap.size with hlt | hge
  · exact hlt
  · have := h.blk; rw [Array.getElem?_eq_none hge] at this; cases this
theorem Tw.cell {w : World} {base g t : Nat} {vs : List Value} {rows : Nat → List Int} (h : Tw w base g t vs rows) (i : Nat) (hi : i < 12) : w.cell? ⟨g, i, none⟩ = some (rowAt vs i) := by
  have hl := h.len
  simp [World.cell?, h.blk, rowAt, List.getElem?_eq_getElem (show i < vs.length by omega)]
theorem Tw.frozen {w : World} {base g t : Nat} {vs : List Value} {rows : Nat → List Int} (h : Tw w base g t vs rows) (i : Nat) : w.frozen? ⟨g, i, none⟩ = false := by
  simp [World.frozen?, h.blk]
theorem Tw.below {w w' : World} {base g t : Nat} {vs : List Value} {rows : Nat → List Int} (h : Tw w base g t vs rows) (hb : Below w.heap.size w w') : Tw w' base g t vs rows :=
  ⟨h.len, h.low, (hb.block g h.lt).trans h.blk, fun i hi => own_below (h.own i hi) hb, h.ne⟩
theorem Tw.alloc {w : World} {base g t : Nat} {vs : List Value} {rows : Nat → List Int} (h : Tw w base g t vs rows) (o : Obj) : Tw (w.alloc o) base g t vs rows := h.below ((Below.refl _ _).alloc (Nat.le_refl _) o)
theorem Tw.congr {w : World} {base g t : Nat} {vs : List Value} {rows rows' : Nat → List Int} (h : Tw w base g t vs rows) (he : ∀ i, i < 12 → rows i = rows' i) : Tw w base g t vs rows' :=
  ⟨h.len, h.low, h.blk, fun i hi => he i hi ▸ h.own i hi, h.ne⟩

theorem own_set {w : World} {base e s n : Nat} {v : Value} {xs : List Value} (h : w.ownsRow base e s v n xs) {p : Addr} (hp : p.block < base) (u : Value) : (w.setCell p u).ownsRow base e s v n xs := by
  refine ⟨h.1, ?_⟩
  rcases h.2 with h0 | ⟨g, cap, cur, h1, h2, h3, h4⟩
  · exact .inl h0
  · exact .inr ⟨g, cap, cur, h1, h2, (Below.heap_setCell w p u g (by omega)).trans h3, h4⟩
theorem own_lt1 {w : World} {base e s n : Nat} {v : Value} {xs : List Value} (h : w.ownsRow base e s v n xs) : ∀ g, v.ownBlock = some g → g < w.heap.size := fun g hg => (h.lt g hg).2
theorem rowAt_set (vs : List Value) (r i : Nat) (v : Value) (hr : r < vs.length) : rowAt (vs.set r v) i = if i = r then v else rowAt vs i := by
  unfold rowAt
  rw [List.getElem?_set]
  by_cases h : r = i
  · subst h; simp [hr]
  · simp [h, Ne.symm h]
theorem cells_set' {w : World} {g t : Nat} {cs : List Value} (h : w.heap[g]? = some (.cells cs.toArray t (0, 0))) (i : Nat) (v : Value) : (w.setCell ⟨g, i, none⟩ v).heap[g]? = some (.cells (cs.set i v).toArray t (0, 0)) := by
  rw [setCell_eq_setRow w g i _ t (0, 0) v h, setRow_heap w g _ _ t (0, 0) h]
  simp
/-- a key is appended onto one row -/
theorem Tw.append {w w' : World} {base g t r : Nat} {vs : List Value} {rows : Nat → List Int} {v' : Value} {key : Int} (h : Tw w base g t vs rows) (hr : r < 12)
    (hown : OwnI w' base v' (rows r ++ [key])) (hg : w.grownBy w' (rowAt vs r).ownBlock) (hat : v'.ownBlock = (rowAt vs r).ownBlock ∨ v'.ownBlock = some w.heap.size) :
    Tw (w'.setCell ⟨g, r, none⟩ v') base g t (vs.set r v') (fun i => if i = r then rows r ++ [key] else rows i) := by
  have hl := h.len
  have hlow := h.low
  have keep : ∀ i, i < 12 → i ≠ r → OwnI w' base (rowAt vs i) (rows i) := fun i hi hne => by
    refine World.ownsRow.kept (h.own i hi) hg ?_
    cases hb : (rowAt vs i).ownBlock with
    | none => exact .inl rfl
    | some b =>
      right
      intro e
      exact hne (h.ne i r b hi hr hb e.symm)
  have hgb : w'.heap[g]? = some (.cells vs.toArray t (0, 0)) := by
    rw [hg.block g h.lt ?_]
    · exact h.blk
    · intro e
      have := own_ge1 (h.own r hr) g e.symm
      omega
  refine ⟨by simp [hl], hlow, cells_set' hgb r v', fun i hi => ?_, fun i j b hi hj h1 h2 => ?_⟩
  · rw [rowAt_set vs r i v' (by omega)]
    by_cases he : i = r
    · subst he
      simp only [if_true]
      exact own_set hown (by exact hlow) v'
    · rw [if_neg he, if_neg he]
      exact own_set (keep i hi he) (by exact hlow) v'
  · rw [rowAt_set vs r i v' (by omega)] at h1
    rw [rowAt_set vs r j v' (by omega)] at h2
    have new : ∀ i, i < 12 → i ≠ r → (rowAt vs i).ownBlock = some b → v'.ownBlock = some b → False := fun i hi hne e1 e2 => by
      rcases hat with e | e
      · rw [e] at e2
        exact hne (h.ne i r b hi hr e1 e2)
      · rw [e] at e2
        injection e2 with e2
        have := own_lt1 (h.own i hi) b e1
        omega
    by_cases hi' : i = r
    · by_cases hj' : j = r
      · omega
      · rw [if_pos hi'] at h1
        rw [if_neg hj'] at h2
        exact (new j hj hj' h2 h1).elim
    · by_cases hj' : j = r
      · rw [if_neg hi'] at h1
        rw [if_pos hj'] at h2
        exact (new i hi hi' h1 h2).elim
      · rw [if_neg hi'] at h1
        rw [if_neg hj'] at h2
        exact h.ne i j b hi hj h1 h2
/-- twelve rows without keys -/
def none12 : List Value := List.replicate 12 (.slice none 0 0)
theorem rowAt_none (i : Nat) : rowAt none12 i = .slice none 0 0 := by
  unfold rowAt none12
  rw [List.getElem?_replicate]
  split <;> rfl
theorem Tw.start {w : World} {base g t : Nat} (hg : g < base) (hb : w.heap[g]? = some (.cells none12.toArray t (0, 0))) : Tw w base g t none12 (fun _ => []) :=
  ⟨rfl, hg, hb, fun i _ => by rw [rowAt_none]; exact World.ownsRow_nil w base _ 1, fun i j b _ _ h => by rw [rowAt_none] at h; cases h⟩

/-- the rows while a key is laid: below r it stands -/
def rowsTo (l : List Int) (key : Int) (r i : Nat) : List Int := if i < r then rowL l i ++ [key] else rowL l i
theorem rowsTo_zero (l : List Int) (key : Int) (i : Nat) : rowsTo l key 0 i = rowL l i := by simp [rowsTo]
theorem rowsTo_succ (l : List Int) (key : Int) (r i : Nat) : (if i = r then rowsTo l key r r ++ [key] else rowsTo l key r i) = rowsTo l key (r + 1) i := by
  unfold rowsTo
  by_cases h : i = r
  · subst h; simp
  · rw [if_neg h]
    by_cases h2 : i < r
    · rw [if_pos h2, if_pos (by omega)]
    · rw [if_neg h2, if_neg (by omega)]
theorem rowsTo_end (l : List Int) (k : Nat) (hk : k < l.length) (i : Nat) : rowsTo (l.take k) l[k] (ht l[k]) i = rowL (l.take (k + 1)) i := by
  rw [List.take_succ_eq_append_getElem hk, rowL_append]
  rfl
theorem rowsTo_len (l : List Int) (key : Int) (r i : Nat) : (rowsTo l key r i).length ≤ l.length + 1 := by
  have := rowL_len l i
  unfold rowsTo
  split
  · simp; omega
  · omega
end Go.Proofs.YtolgncaaffmmnaaDoor
