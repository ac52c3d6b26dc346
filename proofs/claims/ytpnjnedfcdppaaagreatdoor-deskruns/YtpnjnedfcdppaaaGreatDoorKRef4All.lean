/-
  Joined texts: YtpnjnedfcdppaaaGreatDoorKChk, YtpnjnedfcdppaaaGreatDoorKTow, YtpnjnedfcdppaaaGreatDoorKTowerOf, YtpnjnedfcdppaaaGreatDoorKRows0, YtpnjnedfcdppaaaGreatDoorKPath1, YtpnjnedfcdppaaaGreatDoorKWalk, YtpnjnedfcdppaaaGreatDoorKPathF, YtpnjnedfcdppaaaGreatDoorKRowsOf, YtpnjnedfcdppaaaGreatDoorKRows, YtpnjnedfcdppaaaGreatDoorKRef3, YtpnjnedfcdppaaaGreatDoorKRef4.
-/
import Derived.Test.YtpnjnedfcdppaaaGreatDoorKRef1All
import Derived.Test.YtpnjnedfcdppaaaGreatDoorEqTAll
import Derived.Test.YtpnjnedfcdppaaaGreatDoorInts
import Derived.Deep.AppendLies
import Derived.Test.YtpnjnedfcdppaaaGreatDoorCopy
import Derived.Test.YtpnjnedfcdppaaaGreatDoorKKeysAll
/-
  WHICH LISTS ARE KEYS: skip.isKey, skip.check.
-/
namespace Go.Proofs.YtpnjnedfcdppaaaGreatDoor
open Go.RowKit

set_option maxHeartbeats 400000 in
theorem isKeyS_any (k : Int) (w : World) : Calls Tryz.prog 199 #[I k] w fun e w' => e = .returned (.bool (kyB k)) ∧ w' = w := by
  by_cases h0 : 0 ≤ k
  · by_cases h1 : k ≤ 1000000
    · have hk : kyB k = true := by simp [kyB, h0, h1]
      go_enter Tryz.func199, Tryz.ntmps199
      go_wp2
      go_ret
      exact ⟨by simp [hk], rfl⟩
    · have hk : kyB k = false := by simp [kyB, h0, h1]
      go_enter Tryz.func199, Tryz.ntmps199
      go_wp2
      go_ret
      exact ⟨by simp [hk], rfl⟩
  · have hk : kyB k = false := by simp [kyB, h0]
    go_enter Tryz.func199, Tryz.ntmps199
    go_wp2
    go_ret
    exact ⟨by simp [hk], rfl⟩
theorem isKeyS_is (k : Int) (w : World) (b : Bool) (h : kyB k = b) : Calls Tryz.prog 199 #[I k] w fun e w' => e = .returned (.bool b) ∧ w' = w := h ▸ isKeyS_any k w

theorem chkK_bad {l : List Int} {n k : Nat} (hl : l.length = n) (hn : ¬ 200 < n) (hk : k < n) (h : ¬ okK l k) : chkK l = 3 := by
  unfold chkK
  rw [if_neg (by omega), if_neg]
  intro ha
  exact h (ha k (by omega))
theorem chkK_good {l : List Int} {n : Nat} (hl : l.length = n) (hn : ¬ 200 < n) (h : okKs l n) : chkK l = 0 := by
  unfold chkK
  rw [if_neg (by omega), if_pos (by rw [hl]; exact h)]
theorem chkK_large {l : List Int} {n : Nat} (hl : l.length = n) (hn : 200 < n) : chkK l = 2 := by
  unfold chkK
  rw [if_pos (by omega)]

set_option maxHeartbeats 1000000 in
theorem checkS_any (A : Option Addr) (n c : Nat) (l : List Int) (w : World) (h : IS w A n c l) (hn : n ≤ 9223372036854775807) :
    Calls Tryz.prog 140 #[.slice A n c] w fun e w' => e = .returned (I (chkK l)) ∧ Below w.heap.size w w' := by
  have H := Lib.hid h
  have Hlen := Lib.hid h.len
  clear h
  by_cases h200 : 200 < n
  · have HF := Lib.hid (chkK_large Hlen.out h200)
    go_enter Tryz.func140, Tryz.ntmps140
    go_wp2
    go_ret
    exact ⟨ret_int (by rw [HF.out]), Below.refl _ _⟩
  · go_enter Tryz.func140, Tryz.ntmps140
    go_wp2
    go_loopw [10] (fun i wr => ∃ k : Nat, k ≤ n ∧ i = .int .i64 k ∧ okKs l k ∧ Below w.heap.size w wr) (fun i _ => n - (intOf i).toNat)
    case atStart => exact ⟨0, Nat.zero_le _, rfl, fun i hi => absurd hi (by omega), Below.refl _ _⟩
    case round =>
      obtain ⟨k, hk, rfl, hok, hnx⟩ := hrel
      have hsz := hnx.size
      by_cases hlt : k < n
      · obtain ⟨b, off, rfl, hb, hc⟩ := H.out.at_ (by omega)
        have hkl : k < l.length := by have := Hlen.out; omega
        have hc0 : wr.cell? ⟨b, off + k, none⟩ = some (I l[k]) := (hnx.cell (by exact hb)).trans (hc k hlt)
        have hbwr : b < wr.heap.size := by omega
        cases hkey : kyB l[k] with
        | false =>
          have HF : Hid (chkK l = 3) := chkK_bad Hlen.out h200 hlt fun h => by
            have := h.1
            simp [List.getElem?_eq_getElem hkl, hkey] at this
          have HK := Lib.hid hkey
          clear hkey hc hok
          go_wp2_with (go_at_call 199; refine (isKeyS_is _ _ _ HK.out).mono ?_; rintro e w' ⟨rfl, rfl⟩)
          go_ret
          exact ⟨ret_int (by rw [HF.out]), hnx⟩
        | true =>
          by_cases hk0 : 0 < k
          · have hkl1 : k - 1 < l.length := by omega
            have hp0 : wr.cell? ⟨b, off + (k - 1), none⟩ = some (I l[k - 1]) := (hnx.cell (by exact hb)).trans (hc (k - 1) (by omega))
            by_cases hge : l[k] ≤ l[k - 1]
            · have HF : Hid (chkK l = 3) := chkK_bad Hlen.out h200 hlt fun h => by
                have := h.2 hk0
                simp [List.getElem?_eq_getElem hkl, List.getElem?_eq_getElem hkl1] at this
                omega
              have HK := Lib.hid hkey
              clear hkey hc hok
              go_wp2_with (go_at_call 199; refine (isKeyS_is _ _ _ HK.out).mono ?_; rintro e w' ⟨rfl, rfl⟩)
              go_ret
              exact ⟨ret_int (by rw [HF.out]), hnx⟩
            · have HO : Hid (okKs l (k + 1)) := okKs_succ hok ⟨by simpa [List.getElem?_eq_getElem hkl] using hkey, fun _ => by simp [List.getElem?_eq_getElem hkl, List.getElem?_eq_getElem hkl1]; omega⟩
              have HK := Lib.hid hkey
              clear hkey hc hok
              go_wp2_with (go_at_call 199; refine (isKeyS_is _ _ _ HK.out).mono ?_; rintro e w' ⟨rfl, rfl⟩)
              go_roundw
              case rel => exact ⟨k + 1, by omega, by go_num, HO.out, hnx⟩
              case measure => simp [intOf]; omega
          · have HO : Hid (okKs l (k + 1)) := okKs_succ hok ⟨by simpa [List.getElem?_eq_getElem hkl] using hkey, fun h => absurd h hk0⟩
            have HK := Lib.hid hkey
            clear hkey hc hok
            have hd : decide (0 < k) = false := by simpa using hk0
            go_wp2_with (go_at_call 199; refine (isKeyS_is _ _ _ HK.out).mono ?_; rintro e w' ⟨rfl, rfl⟩)
            go_roundw
            case rel => exact ⟨k + 1, by omega, by go_num, HO.out, hnx⟩
            case measure => simp [intOf]; omega
      · have HF : Hid (chkK l = 0) := chkK_good Hlen.out h200 (by rw [show n = k by omega]; exact hok)
        clear hok
        go_wp2
        go_ret
        exact ⟨ret_int (by rw [HF.out]), hnx⟩

end Go.Proofs.YtpnjnedfcdppaaaGreatDoor

/-
  THE TOWER: twelve rows of the call's own in one block. Nothing is walked here.
-/
namespace Go.Proofs.YtpnjnedfcdppaaaGreatDoor
open Go.RowKit

def rowAt (vs : List Value) (i : Nat) : Value := vs[i]?.getD (.slice none 0 0)
structure Tw (w : World) (base g t : Nat) (vs : List Value) (rows : Nat → List Int) : Prop where
  len : vs.length = 12
  low : g < base
  blk : w.heap[g]? = some (.cells vs.toArray t (0, 0))
  own : ∀ i, i < 12 → OwnI w base (rowAt vs i) (rows i)
  ne : ∀ i j b, i < 12 → j < 12 → (rowAt vs i).ownBlock = some b → (rowAt vs j).ownBlock = some b → i = j
theorem Tw.lt {w : World} {base g t : Nat} {vs : List Value} {rows : Nat → List Int} (h : Tw w base g t vs rows) : g < w.heap.size := by
  rcases Nat.lt_or_ge g w.heap.size with hlt | hge
  · exact hlt
  · have := h.blk; rw [Array.getElem?_eq_none hge] at this; cases this
theorem Tw.cell {w : World} {base g t : Nat} {vs : List Value} {rows : Nat → List Int} (h : Tw w base g t vs rows) (i : Nat) (hi : i < 12) : w.cell? ⟨g, i, none⟩ = some (rowAt vs i) := by
  have hl := h.len
  simp [World.cell?, h.blk, rowAt, List.getElem?_eq_getElem (show i < vs.length by omega)]
theorem Tw.frozen {w : World} {base g t : Nat} {vs : List Value} {rows : Nat → List Int} (h : Tw w base g t vs rows) (i : Nat) : w.frozen? ⟨g, i, none⟩ = false := by
  simp [World.frozen?, h.blk]
theorem Tw.below {w w' : World} {base g t : Nat} {vs : List Value} {rows : Nat → List Int} (h : Tw w base g t vs rows) (hb : Below w.heap.size w w') : Tw w' base g t vs rows :=
  ⟨h.len, h.low, (hb.block g h.lt).trans h.blk, fun i hi => own_below (h.own i hi) hb, h.ne⟩
theorem Tw.alloc {w : World} {base g t : Nat} {vs : List Value} {rows : Nat → List Int} (h : Tw w base g t vs rows) (o : Obj) : Tw (w.alloc o) base g t vs rows := h.below ((Below.refl _ _).alloc (Nat.le_refl _) o)
theorem Tw.congr {w : World} {base g t : Nat} {vs : List Value} {rows rows' : Nat → List Int} (h : Tw w base g t vs rows) (he : ∀ i, i < 12 → rows i = rows' i) : Tw w base g t vs rows' :=
  ⟨h.len, h.low, h.blk, fun i hi => he i hi ▸ h.own i hi, h.ne⟩

theorem own_set {w : World} {base e s n : Nat} {v : Value} {xs : List Value} (h : w.ownsRow base e s v n xs) {p : Addr} (hp : p.block < base) (u : Value) : (w.setCell p u).ownsRow base e s v n xs := by
  refine ⟨h.1, ?_⟩
  rcases h.2 with h0 | ⟨g, cap, cur, h1, h2, h3, h4⟩
  · exact .inl h0
  · exact .inr ⟨g, cap, cur, h1, h2, (Below.heap_setCell w p u g (by omega)).trans h3, h4⟩
theorem own_lt1 {w : World} {base e s n : Nat} {v : Value} {xs : List Value} (h : w.ownsRow base e s v n xs) : ∀ g, v.ownBlock = some g → g < w.heap.size := fun g hg => (h.lt g hg).2
theorem rowAt_set (vs : List Value) (r i : Nat) (v : Value) (hr : r < vs.length) : rowAt (vs.set r v) i = if i = r then v else rowAt vs i := by
  unfold rowAt
  rw [List.getElem?_set]
  by_cases h : r = i
  · subst h; simp [hr]
  · simp [h, Ne.symm h]
theorem cells_set' {w : World} {g t : Nat} {cs : List Value} (h : w.heap[g]? = some (.cells cs.toArray t (0, 0))) (i : Nat) (v : Value) : (w.setCell ⟨g, i, none⟩ v).heap[g]? = some (.cells (cs.set i v).toArray t (0, 0)) := by
  rw [setCell_eq_setRow w g i _ t (0, 0) v h, setRow_heap w g _ _ t (0, 0) h]
  simp
theorem Tw.append {w w' : World} {base g t r : Nat} {vs : List Value} {rows : Nat → List Int} {v' : Value} {key : Int} (h : Tw w base g t vs rows) (hr : r < 12)
    (hown : OwnI w' base v' (rows r ++ [key])) (hg : w.grownBy w' (rowAt vs r).ownBlock) (hat : v'.ownBlock = (rowAt vs r).ownBlock ∨ v'.ownBlock = some w.heap.size) :
    Tw (w'.setCell ⟨g, r, none⟩ v') base g t (vs.set r v') (fun i => if i = r then rows r ++ [key] else rows i) := by
  have hl := h.len
  have hlow := h.low
  have keep : ∀ i, i < 12 → i ≠ r → OwnI w' base (rowAt vs i) (rows i) := fun i hi hne => by
    refine World.ownsRow.kept (h.own i hi) hg ?_
    cases hb : (rowAt vs i).ownBlock with
    | none => exact .inl rfl
    | some b =>
      right
      intro e
      exact hne (h.ne i r b hi hr hb e.symm)
  have hgb : w'.heap[g]? = some (.cells vs.toArray t (0, 0)) := by
    rw [hg.block g h.lt ?_]
    · exact h.blk
    · intro e
      have := own_ge1 (h.own r hr) g e.symm
      omega
  refine ⟨by simp [hl], hlow, cells_set' hgb r v', fun i hi => ?_, fun i j b hi hj h1 h2 => ?_⟩
  · rw [rowAt_set vs r i v' (by omega)]
    by_cases he : i = r
    · subst he
      simp only [if_true]
      exact own_set hown (by exact hlow) v'
    · rw [if_neg he, if_neg he]
      exact own_set (keep i hi he) (by exact hlow) v'
  · rw [rowAt_set vs r i v' (by omega)] at h1
    rw [rowAt_set vs r j v' (by omega)] at h2
    have new : ∀ i, i < 12 → i ≠ r → (rowAt vs i).ownBlock = some b → v'.ownBlock = some b → False := fun i hi hne e1 e2 => by
      rcases hat with e | e
      · rw [e] at e2
        exact hne (h.ne i r b hi hr e1 e2)
      · rw [e] at e2
        injection e2 with e2
        have := own_lt1 (h.own i hi) b e1
        omega
    by_cases hi' : i = r
    · by_cases hj' : j = r
      · omega
      · rw [if_pos hi'] at h1
        rw [if_neg hj'] at h2
        exact (new j hj hj' h2 h1).elim
    · by_cases hj' : j = r
      · rw [if_neg hi'] at h1
        rw [if_pos hj'] at h2
        exact (new i hi hi' h1 h2).elim
      · rw [if_neg hi'] at h1
        rw [if_neg hj'] at h2
        exact h.ne i j b hi hj h1 h2
def none12 : List Value := List.replicate 12 (.slice none 0 0)
theorem rowAt_none (i : Nat) : rowAt none12 i = .slice none 0 0 := by
  unfold rowAt none12
  rw [List.getElem?_replicate]
  split <;> rfl
theorem Tw.start {w : World} {base g t : Nat} (hg : g < base) (hb : w.heap[g]? = some (.cells none12.toArray t (0, 0))) : Tw w base g t none12 (fun _ => []) :=
  ⟨rfl, hg, hb, fun i _ => by rw [rowAt_none]; exact World.ownsRow_nil w base _ 1, fun i j b _ _ h => by rw [rowAt_none] at h; cases h⟩

def rowsTo (l : List Int) (key : Int) (r i : Nat) : List Int := if i < r then rowL l i ++ [key] else rowL l i
theorem rowsTo_zero (l : List Int) (key : Int) (i : Nat) : rowsTo l key 0 i = rowL l i := by simp [rowsTo]
theorem rowsTo_succ (l : List Int) (key : Int) (r i : Nat) : (if i = r then rowsTo l key r r ++ [key] else rowsTo l key r i) = rowsTo l key (r + 1) i := by
  unfold rowsTo
  by_cases h : i = r
  · subst h; simp
  · rw [if_neg h]
    by_cases h2 : i < r
    · rw [if_pos h2, if_pos (by omega)]
    · rw [if_neg h2, if_neg (by omega)]
theorem rowsTo_end (l : List Int) (k : Nat) (hk : k < l.length) (i : Nat) : rowsTo (l.take k) l[k] (ht l[k]) i = rowL (l.take (k + 1)) i := by
  rw [List.take_succ_eq_append_getElem hk, rowL_append]
  rfl
theorem rowsTo_len (l : List Int) (key : Int) (r i : Nat) : (rowsTo l key r i).length ≤ l.length + 1 := by
  have := rowL_len l i
  unfold rowsTo
  split
  · simp; omega
  · omega
end Go.Proofs.YtpnjnedfcdppaaaGreatDoor

/-
  skip.towerOf.
-/
namespace Go.Proofs.YtpnjnedfcdppaaaGreatDoor
open Go.RowKit

def Tow (w : World) (rows : Nat → List Int) (wr : World) : Prop :=
  ∃ vs, Tw wr (w.heap.size + 2) (w.heap.size + 1) 192 vs rows ∧ wr.heap[w.heap.size]? = some (.cells none12.toArray 192 (0, 0)) ∧ Below w.heap.size w wr
theorem Tow.congr {w wr : World} {rows rows' : Nat → List Int} (h : Tow w rows wr) (he : ∀ i, i < 12 → rows i = rows' i) : Tow w rows' wr := by
  obtain ⟨vs, h1, h2⟩ := h
  exact ⟨vs, h1.congr he, h2⟩
def RetTw (l : List Int) (w : World) (e : Ending) (w' : World) : Prop := ∃ vs, e = .returned (.agg vs.toArray) ∧ Tw w' (w.heap.size + 2) (w.heap.size + 1) 192 vs (rowL l) ∧ Below w.heap.size w w'

theorem Tow.start (w : World) (l : List Int) : Tow w (rowL (l.take 0)) ((w.alloc (.cells none12.toArray 192)).alloc (.cells none12.toArray 192)) := by
  refine ⟨none12, Tw.congr (Tw.start (by omega) ?_) (fun i _ => by simp [rowL]), ?_, ((Below.refl _ _).alloc (Nat.le_refl _) _).alloc (by simp) _⟩
  · have := heap_alloc_new (w.alloc (.cells none12.toArray 192)) (.cells none12.toArray 192)
    simpa using this
  · rw [Below.heap_alloc _ _ _ (by simp)]
    exact heap_alloc_new w _
theorem Tow.step {w wr w2 : World} {rows : Nat → List Int} {vs : List Value} {r : Nat} {key : Int} {v' : Value} (h : Tw wr (w.heap.size + 2) (w.heap.size + 1) 192 vs rows) (h0 : wr.heap[w.heap.size]? = some (.cells none12.toArray 192 (0, 0))) (hb : Below w.heap.size w wr) (hr : r < 12)
    (hown : OwnI w2 (w.heap.size + 2) v' (rows r ++ [key])) (hg : wr.grownBy w2 (rowAt vs r).ownBlock) (hat : v'.ownBlock = (rowAt vs r).ownBlock ∨ v'.ownBlock = some wr.heap.size) :
    Tow w (fun i => if i = r then rows r ++ [key] else rows i) (w2.setCell ⟨w.heap.size + 1, r, none⟩ v') := by
  refine ⟨_, h.append hr hown hg hat, ?_, ?_⟩
  · rw [Below.heap_setCell _ _ _ _ (by simp), hg.block _ ?_ ?_]
    · exact h0
    · have := h.lt; omega
    · intro e
      have := own_ge1 (h.own r hr) _ e.symm
      omega
  · refine Below.setCell (hb.grown hg hb.size ?_) (by simp) _
    intro k hk
    have := own_ge1 (h.own r hr) k hk
    omega
theorem Tw.after {w w' : World} {base g t r : Nat} {vs : List Value} {rows : Nat → List Int} {v : Value} {o : Obj} (h : Tw w base g t vs rows) (hr : r < 12) (hv : rowAt vs r = v) (hg : (w.alloc o).grownBy w' v.ownBlock) :
    w'.cell? ⟨g, r, none⟩ = some v ∧ w'.frozen? ⟨g, r, none⟩ = false := by
  subst hv
  have h1 := h.alloc o
  have hb : w'.heap[g]? = some (.cells vs.toArray t (0, 0)) := by
    rw [hg.block g h1.lt ?_]
    · exact h1.blk
    · intro e
      have := own_ge1 (h.own r hr) g e.symm
      have := h.low
      omega
  have hl := h.len
  exact ⟨by simp [World.cell?, hb, rowAt, List.getElem?_eq_getElem (show r < vs.length by omega)], by simp [World.frozen?, hb]⟩
theorem res12 {w : World} {g t : Nat} (h : w.heap[g]? = some (.cells none12.toArray t (0, 0))) (i : Nat) (hi : i < 12) : w.cell? ⟨g, i, none⟩ = some (.slice none 0 0) ∧ w.frozen? ⟨g, i, none⟩ = false := by
  refine ⟨?_, by simp [World.frozen?, h]⟩
  have : none12[i]? = some (.slice none 0 0) := by unfold none12; rw [List.getElem?_replicate, if_pos hi]
  simpa [World.cell?, h] using this
theorem set12 {α : Type} (vs : List α) (h : vs.length = 12) : ∃ a b c d e f g i j k l m, vs = [a, b, c, d, e, f, g, i, j, k, l, m] := by
  match vs, h with
  | [a, b, c, d, e, f, g, i, j, k, l, m], _ => exact ⟨a, b, c, d, e, f, g, i, j, k, l, m, rfl⟩
abbrev slV (t : Option Addr × Nat × Nat) : Value := .slice t.1 t.2.1 t.2.2
theorem all_slices : ∀ vs : List Value, (∀ i, i < vs.length → ∃ A m c, rowAt vs i = .slice A m c) → ∃ ts : List (Option Addr × Nat × Nat), vs = ts.map slV
  | [], _ => ⟨[], rfl⟩
  | v :: t, h => by
    obtain ⟨A, m, c, h0⟩ := h 0 (by simp)
    obtain ⟨ts, hts⟩ := all_slices t fun i hi => by
      have := h (i + 1) (by simp; omega)
      simpa [rowAt] using this
    refine ⟨(A, m, c) :: ts, ?_⟩
    simp [rowAt] at h0
    simp [hts, h0]
theorem Tw.slices {w : World} {base g t : Nat} {vs : List Value} {rows : Nat → List Int} (h : Tw w base g t vs rows) : ∃ ts : List (Option Addr × Nat × Nat), ts.length = 12 ∧ vs = ts.map slV := by
  obtain ⟨ts, hts⟩ := all_slices vs fun i hi => by
    obtain ⟨A, c, e, _⟩ := (h.own i (by have := h.len; omega)).is_
    exact ⟨A, _, c, e⟩
  refine ⟨ts, ?_, hts⟩
  have := h.len
  rw [hts] at this
  simpa using this
theorem Tw.far {w : World} {base g t : Nat} {vs : List Value} {rows : Nat → List Int} (h : Tw w base g t vs rows) {p : Addr} (hp : p.block < base) (hg : g ≠ p.block) (u : Value) : Tw (w.setCell p u) base g t vs rows :=
  ⟨h.len, h.low, (Below.heap_setCell w p u g hg).trans h.blk, fun i hi => own_set (h.own i hi) hp u, h.ne⟩

def st12 (w : World) (g : Nat) (a0 a1 a2 a3 a4 a5 a6 a7 a8 a9 a10 a11 : Value) : World := ((((((((((((w.setCell ⟨g, 0, none⟩ a0).setCell ⟨g, 1, none⟩ a1).setCell ⟨g, 2, none⟩ a2).setCell ⟨g, 3, none⟩ a3).setCell ⟨g, 4, none⟩ a4).setCell ⟨g, 5, none⟩ a5).setCell ⟨g, 6, none⟩ a6).setCell ⟨g, 7, none⟩ a7).setCell ⟨g, 8, none⟩ a8).setCell ⟨g, 9, none⟩ a9).setCell ⟨g, 10, none⟩ a10).setCell ⟨g, 11, none⟩ a11)
theorem st12_heap {w : World} {g t : Nat} (h : w.heap[g]? = some (.cells none12.toArray t (0, 0))) (a0 a1 a2 a3 a4 a5 a6 a7 a8 a9 a10 a11 : Value) : (st12 w g a0 a1 a2 a3 a4 a5 a6 a7 a8 a9 a10 a11).heap[g]? = some (.cells #[a0, a1, a2, a3, a4, a5, a6, a7, a8, a9, a10, a11] t (0, 0)) := (cells_set' (cells_set' (cells_set' (cells_set' (cells_set' (cells_set' (cells_set' (cells_set' (cells_set' (cells_set' (cells_set' (cells_set' h 0 a0) 1 a1) 2 a2) 3 a3) 4 a4) 5 a5) 6 a6) 7 a7) 8 a8) 9 a9) 10 a10) 11 a11)
theorem st12_below {w w0 : World} {g B : Nat} (h : Below B w0 w) (hg : B ≤ g) (a0 a1 a2 a3 a4 a5 a6 a7 a8 a9 a10 a11 : Value) : Below B w0 (st12 w g a0 a1 a2 a3 a4 a5 a6 a7 a8 a9 a10 a11) := (Below.setCell (Below.setCell (Below.setCell (Below.setCell (Below.setCell (Below.setCell (Below.setCell (Below.setCell (Below.setCell (Below.setCell (Below.setCell (Below.setCell h (by exact hg) a0) (by exact hg) a1) (by exact hg) a2) (by exact hg) a3) (by exact hg) a4) (by exact hg) a5) (by exact hg) a6) (by exact hg) a7) (by exact hg) a8) (by exact hg) a9) (by exact hg) a10) (by exact hg) a11)
theorem st12_tw {w : World} {base g t p : Nat} {vs : List Value} {rows : Nat → List Int} (h : Tw w base g t vs rows) (hp : p < base) (hg : g ≠ p) (a0 a1 a2 a3 a4 a5 a6 a7 a8 a9 a10 a11 : Value) : Tw (st12 w p a0 a1 a2 a3 a4 a5 a6 a7 a8 a9 a10 a11) base g t vs rows := (Tw.far (Tw.far (Tw.far (Tw.far (Tw.far (Tw.far (Tw.far (Tw.far (Tw.far (Tw.far (Tw.far (Tw.far h (by exact hp) (by exact hg) a0) (by exact hp) (by exact hg) a1) (by exact hp) (by exact hg) a2) (by exact hp) (by exact hg) a3) (by exact hp) (by exact hg) a4) (by exact hp) (by exact hg) a5) (by exact hp) (by exact hg) a6) (by exact hp) (by exact hg) a7) (by exact hp) (by exact hg) a8) (by exact hp) (by exact hg) a9) (by exact hp) (by exact hg) a10) (by exact hp) (by exact hg) a11)
theorem tower_array : ∃ e, Tryz.prog.underlying 192 = some (.array 12 e) := ⟨_, Tryz.underlying192⟩
theorem tower_size : (Tryz.prog.info? 192).map (·.size) = some 12 := by kernel_rfl

set_option maxRecDepth 100000 in
set_option maxHeartbeats 2000000 in
theorem towerOf_any (A : Option Addr) (n c : Nat) (l : List Int) (w : World) (h : IS w A n c l) (hn : n ≤ 1000) (hT : Tb w) :
    Calls Tryz.prog 127 #[.slice A n c] w (RetTw l w) := by
  have H := Lib.hid h
  have Hlen := Lib.hid h.len
  have HT := Lib.hid hT
  clear h hT
  obtain ⟨i0, hi, hz0, hz1, hz2⟩ := info_parts int_info
  have HI := Lib.hid hi
  have HZ0 := Lib.hid hz0
  have HZ1 := Lib.hid hz1
  have HZ2 := Lib.hid hz2
  clear hi hz0 hz1 hz2
  go_enter Tryz.func127, Tryz.ntmps127
  go_wp2
  go_loopw [9] (fun i wr => ∃ k : Nat, k ≤ n ∧ i = .int .i64 k ∧ Tow w (rowL (l.take k)) wr) (fun i _ => n - (intOf i).toNat)
  case atStart => exact ⟨0, Nat.zero_le _, rfl, Tow.start w l⟩
  case round =>
    obtain ⟨k, hk, rfl, hrow⟩ := hrel
    by_cases hlt : k < n
    · have hkl : k < l.length := by have := Hlen.out; omega
      obtain ⟨key, hkey⟩ : ∃ key, l[k] = key := ⟨_, rfl⟩
      have hbel : Below w.heap.size w wr := by obtain ⟨_, _, _, hb⟩ := hrow; exact hb
      obtain ⟨b, off, rfl, hb, hc⟩ := H.out.at_ (by omega)
      have hc0 : wr.cell? ⟨b, off + k, none⟩ = some (I key) := by rw [← hkey]; exact (hbel.cell (by exact hb)).trans (hc k hlt)
      have HTR := Lib.hid (HT.out.next hbel)
      have HH := Lib.hid (ht_le key)
      obtain ⟨m, hm⟩ : ∃ m, ht key = m := ⟨_, rfl⟩
      have hm12 : m ≤ 12 := by rw [← hm]; exact HH.out
      have HE : Hid (∀ i, rowsTo (l.take k) key m i = rowL (l.take (k + 1)) i) := fun i => by rw [← hm, ← hkey]; exact rowsTo_end l k hkl i
      have HL : Hid (∀ r i, (rowsTo (l.take k) key r i).length ≤ 1001) := fun r i => by
        have := rowsTo_len (l.take k) key r i
        rw [List.length_take] at this
        omega
      have HROW := Lib.hid hrow
      have HCALL := Lib.hid (show Calls Tryz.prog 191 #[I key] wr fun e w' => e = .returned (I m) ∧ w' = wr by rw [← hm]; exact Height_any key wr HTR.out)
      clear hc hkey hm hrow hbel
      go_wp2_with fail
      refine HCALL.out.mono ?_
      rintro e w1 ⟨rfl, rfl⟩
      go_wp2
      go_loopw [15] (fun i wr => ∃ r : Nat, r ≤ m ∧ i = .int .i64 r ∧ Tow w (rowsTo (l.take k) key r) wr) (fun i _ => m - (intOf i).toNat)
      case atStart => exact ⟨0, Nat.zero_le _, rfl, HROW.out.congr fun i _ => (rowsTo_zero _ _ i).symm⟩
      case round =>
        obtain ⟨r, hr, rfl, vs, htw, hres, hbl⟩ := hrel
        by_cases hrm : r < m
        · have hr12 : r < 12 := by omega
          have hcr := htw.cell r hr12
          have hsz := htw.lt
          have hz : w.heap.size + 2 ≤ wr.heap.size := by omega
          obtain ⟨v, hv⟩ : ∃ v, rowAt vs r = v := ⟨_, rfl⟩
          rw [hv] at hcr
          have hown := htw.own r hr12
          rw [hv] at hown
          have HOWN := Lib.hid hown
          have HTW := Lib.hid htw
          have HRES := Lib.hid hres
          have HBL := Lib.hid hbl
          have HV := Lib.hid hv
          obtain ⟨xs, hxs⟩ : ∃ xs, rowsTo (l.take k) key r r = xs := ⟨_, rfl⟩
          have hxl : xs.length ≤ 1001 := by rw [← hxs]; exact HL.out r r
          rw [hxs] at HOWN
          have HXS := Lib.hid hxs
          clear htw hres hbl hv hown hxs
          go_wp2_with (first
            | (at_builtin
               refine wpList_append_lies _ rfl (.tmp 21) (.tmp 23) 46 rfl (w.heap.size + 2) 3 i0 _ 1 8 Tryz.underlying46 HI.out HZ0.out HZ1.out HZ2.out rfl (by omega) v xs.length (xs.map I) rfl (own_below HOWN.out ((Below.refl _ _).alloc (Nat.le_refl _) _)) ⟨wr.heap.size, 0, none⟩ 1 1 [I key] rfl rfl (cell_one_new _ _ _) (one_I key) (by omega) (by unfold maxLen; omega) (by omega) (by simp; omega) (wr.heap.size + 1) (by simp) ?_
               intro g2 cap2 w2 hown2 hgrow2 hat2 hlt2
               obtain ⟨hcell2, hfz2⟩ := HTW.out.after hr12 HV.out hgrow2)
            | fail)
          go_roundw
          case rel =>
            have hown3 : OwnI w2 (w.heap.size + 2) (.slice (some ⟨g2, 0, none⟩) (xs.length + 1) cap2) (xs ++ [key]) := by
              unfold OwnI
              simpa using hown2
            have hst := Tow.step (w := w) (r := r) (key := key) (HTW.out.alloc _) ((Below.heap_alloc _ _ _ (by omega)).trans HRES.out) (HBL.out.alloc HBL.out.size _) hr12 (by rw [HXS.out]; exact hown3) (by rw [HV.out]; exact hgrow2) (by rw [HV.out]; rcases hat2 with e | e; exact .inl e.symm; exact .inr (by rw [e]; simp [Value.ownBlock]))
            exact ⟨r + 1, by omega, by go_num, hst.congr fun i _ => rowsTo_succ _ _ r i⟩
          case measure => simp [intOf]; omega
        · have htow : Tow w (rowL (l.take (k + 1))) wr := Tow.congr ⟨vs, htw, hres, hbl⟩ fun i _ => by rw [show r = m by omega]; exact HE.out i
          have HTOW := Lib.hid htow
          clear htw hres hbl htow
          go_wp2
          go_roundw
          case rel => exact ⟨k + 1, by omega, by go_num, HTOW.out⟩
          case measure => simp [intOf]; omega
    · obtain ⟨vs, htw, hres, hbl⟩ := hrow
      rw [List.take_of_length_le (by have := Hlen.out; omega)] at htw
      have HTW := Lib.hid htw
      have HRES := Lib.hid hres
      have HBL := Lib.hid hbl
      obtain ⟨ts, hts, rfl⟩ := htw.slices
      obtain ⟨a0, a1, a2, a3, a4, a5, a6, a7, a8, a9, a10, a11, rfl⟩ := set12 ts hts
      have c0 : wr.cell? ⟨w.heap.size + 1, 0, none⟩ = some (slV a0) := htw.cell 0 (by omega)
      have c1 : wr.cell? ⟨w.heap.size + 1, 1, none⟩ = some (slV a1) := htw.cell 1 (by omega)
      have c2 : wr.cell? ⟨w.heap.size + 1, 2, none⟩ = some (slV a2) := htw.cell 2 (by omega)
      have c3 : wr.cell? ⟨w.heap.size + 1, 3, none⟩ = some (slV a3) := htw.cell 3 (by omega)
      have c4 : wr.cell? ⟨w.heap.size + 1, 4, none⟩ = some (slV a4) := htw.cell 4 (by omega)
      have c5 : wr.cell? ⟨w.heap.size + 1, 5, none⟩ = some (slV a5) := htw.cell 5 (by omega)
      have c6 : wr.cell? ⟨w.heap.size + 1, 6, none⟩ = some (slV a6) := htw.cell 6 (by omega)
      have c7 : wr.cell? ⟨w.heap.size + 1, 7, none⟩ = some (slV a7) := htw.cell 7 (by omega)
      have c8 : wr.cell? ⟨w.heap.size + 1, 8, none⟩ = some (slV a8) := htw.cell 8 (by omega)
      have c9 : wr.cell? ⟨w.heap.size + 1, 9, none⟩ = some (slV a9) := htw.cell 9 (by omega)
      have c10 : wr.cell? ⟨w.heap.size + 1, 10, none⟩ = some (slV a10) := htw.cell 10 (by omega)
      have c11 : wr.cell? ⟨w.heap.size + 1, 11, none⟩ = some (slV a11) := htw.cell 11 (by omega)
      have d0 : wr.cell? ⟨w.heap.size, 0, none⟩ = some (.slice none 0 0) := (res12 hres 0 (by omega)).1
      have e0 : wr.frozen? ⟨w.heap.size, 0, none⟩ = false := (res12 hres 0 (by omega)).2
      have d1 : wr.cell? ⟨w.heap.size, 1, none⟩ = some (.slice none 0 0) := (res12 hres 1 (by omega)).1
      have e1 : wr.frozen? ⟨w.heap.size, 1, none⟩ = false := (res12 hres 1 (by omega)).2
      have d2 : wr.cell? ⟨w.heap.size, 2, none⟩ = some (.slice none 0 0) := (res12 hres 2 (by omega)).1
      have e2 : wr.frozen? ⟨w.heap.size, 2, none⟩ = false := (res12 hres 2 (by omega)).2
      have d3 : wr.cell? ⟨w.heap.size, 3, none⟩ = some (.slice none 0 0) := (res12 hres 3 (by omega)).1
      have e3 : wr.frozen? ⟨w.heap.size, 3, none⟩ = false := (res12 hres 3 (by omega)).2
      have d4 : wr.cell? ⟨w.heap.size, 4, none⟩ = some (.slice none 0 0) := (res12 hres 4 (by omega)).1
      have e4 : wr.frozen? ⟨w.heap.size, 4, none⟩ = false := (res12 hres 4 (by omega)).2
      have d5 : wr.cell? ⟨w.heap.size, 5, none⟩ = some (.slice none 0 0) := (res12 hres 5 (by omega)).1
      have e5 : wr.frozen? ⟨w.heap.size, 5, none⟩ = false := (res12 hres 5 (by omega)).2
      have d6 : wr.cell? ⟨w.heap.size, 6, none⟩ = some (.slice none 0 0) := (res12 hres 6 (by omega)).1
      have e6 : wr.frozen? ⟨w.heap.size, 6, none⟩ = false := (res12 hres 6 (by omega)).2
      have d7 : wr.cell? ⟨w.heap.size, 7, none⟩ = some (.slice none 0 0) := (res12 hres 7 (by omega)).1
      have e7 : wr.frozen? ⟨w.heap.size, 7, none⟩ = false := (res12 hres 7 (by omega)).2
      have d8 : wr.cell? ⟨w.heap.size, 8, none⟩ = some (.slice none 0 0) := (res12 hres 8 (by omega)).1
      have e8 : wr.frozen? ⟨w.heap.size, 8, none⟩ = false := (res12 hres 8 (by omega)).2
      have d9 : wr.cell? ⟨w.heap.size, 9, none⟩ = some (.slice none 0 0) := (res12 hres 9 (by omega)).1
      have e9 : wr.frozen? ⟨w.heap.size, 9, none⟩ = false := (res12 hres 9 (by omega)).2
      have d10 : wr.cell? ⟨w.heap.size, 10, none⟩ = some (.slice none 0 0) := (res12 hres 10 (by omega)).1
      have e10 : wr.frozen? ⟨w.heap.size, 10, none⟩ = false := (res12 hres 10 (by omega)).2
      have d11 : wr.cell? ⟨w.heap.size, 11, none⟩ = some (.slice none 0 0) := (res12 hres 11 (by omega)).1
      have e11 : wr.frozen? ⟨w.heap.size, 11, none⟩ = false := (res12 hres 11 (by omega)).2
      clear htw hres hbl
      go_wp2
      try simp only [Exit.inBlock, Exit.then]
      change bodyPost _ _ _ _ _ (st12 wr w.heap.size (slV a0) (slV a1) (slV a2) (slV a3) (slV a4) (slV a5) (slV a6) (slV a7) (slV a8) (slV a9) (slV a10) (slV a11))
      have hh := st12_heap HRES.out (slV a0) (slV a1) (slV a2) (slV a3) (slV a4) (slV a5) (slV a6) (slV a7) (slV a8) (slV a9) (slV a10) (slV a11)
      have hbb := st12_below HBL.out (Nat.le_refl _) (slV a0) (slV a1) (slV a2) (slV a3) (slV a4) (slV a5) (slV a6) (slV a7) (slV a8) (slV a9) (slV a10) (slV a11)
      have htt := st12_tw HTW.out (p := w.heap.size) (by omega) (by omega) (slV a0) (slV a1) (slV a2) (slV a3) (slV a4) (slV a5) (slV a6) (slV a7) (slV a8) (slV a9) (slV a10) (slV a11)
      generalize st12 wr w.heap.size (slV a0) (slV a1) (slV a2) (slV a3) (slV a4) (slV a5) (slV a6) (slV a7) (slV a8) (slV a9) (slV a10) (slV a11) = wf at hh hbb htt ⊢
      refine bodyPost_ret (v := .agg #[slV a0, slV a1, slV a2, slV a3, slV a4, slV a5, slV a6, slV a7, slV a8, slV a9, slV a10, slV a11]) ?_ rfl ?_
      · obtain ⟨ea, hea⟩ := tower_array
        have := run_loadVar_row (P := Tryz.prog) wf w.heap.size 192 192 #[slV a0, slV a1, slV a2, slV a3, slV a4, slV a5, slV a6, slV a7, slV a8, slV a9, slV a10, slV a11] (0, 0) _ hh hea rfl tower_size
        simp [results, Tryz.results127]
        exact this
      · exact ⟨_, rfl, htt, hbb⟩
end Go.Proofs.YtpnjnedfcdppaaaGreatDoor

/-
  ROWS AS THEY LIE: twelve slices in a block, a slice of rows. Nothing is walked here.
-/
namespace Go.Proofs.YtpnjnedfcdppaaaGreatDoor
open Go.RowKit

abbrev T3 := Option Addr × Nat × Nat
def tAt (ts : List T3) (i : Nat) : T3 := ts[i]?.getD (none, 0, 0)
structure Tv (w : World) (g : Nat) (ts : List T3) (L : Nat → List Int) : Prop where
  len : ts.length = 12
  lt : g < w.heap.size
  cell : ∀ i, i < 12 → w.cell? ⟨g, i, none⟩ = some (slV (tAt ts i))
  is_ : ∀ i, i < 12 → IS w (tAt ts i).1 (tAt ts i).2.1 (tAt ts i).2.2 (L i)
theorem Tv.below {w w' : World} {g : Nat} {ts : List T3} {L : Nat → List Int} (h : Tv w g ts L) (hb : Below w.heap.size w w') : Tv w' g ts L :=
  ⟨h.len, Nat.lt_of_lt_of_le h.lt hb.size, fun i hi => (hb.cell (by exact h.lt)).trans (h.cell i hi), fun i hi => (h.is_ i hi).below hb⟩
structure RI (w : World) (A : Option Addr) (m c : Nat) (L : List (List Int)) : Prop where
  len : L.length = m
  cap : m ≤ c
  at_ : 0 < m → ∃ b off, A = some ⟨b, off, none⟩ ∧ b < w.heap.size ∧ ∀ i, i < m → ∃ A' n' c', w.cell? ⟨b, off + i, none⟩ = some (.slice A' n' c') ∧ IS w A' n' c' (L[i]?.getD [])
theorem RI.below {w w' : World} {A : Option Addr} {m c : Nat} {L : List (List Int)} (h : RI w A m c L) (hb : Below w.heap.size w w') : RI w' A m c L := by
  refine ⟨h.len, h.cap, fun h0 => ?_⟩
  obtain ⟨b, off, e, hlt, hc⟩ := h.at_ h0
  refine ⟨b, off, e, Nat.lt_of_lt_of_le hlt hb.size, fun i hi => ?_⟩
  obtain ⟨A', n', c', h1, h2⟩ := hc i hi
  exact ⟨A', n', c', (hb.cell (by exact hlt)).trans h1, h2.below hb⟩
theorem RI.none_ {w : World} : RI w none 0 0 [] := ⟨rfl, Nat.le_refl _, fun h => absurd h (by omega)⟩
def RetRows (L : List (List Int)) (w : World) (e : Ending) (w' : World) : Prop := ∃ A m c, e = .returned (.slice A m c) ∧ RI w' A m c L ∧ Below w.heap.size w w'

theorem hiR_is {l : List Int} {k : Nat} (hk : k ≤ 12) (h1 : ∀ i, i < k → rowL l i ≠ []) (h2 : k = 12 ∨ rowL l k = []) : hiR l = k := by
  rcases Nat.lt_trichotomy (hiR l) k with h | h | h
  · exact absurd (hiR_none l _ (Nat.le_refl _)) (h1 _ h)
  · exact h
  · have := hiR_le l
    rcases h2 with h2 | h2
    · omega
    · exact absurd h2 (hiR_some l k h)
theorem tw_tv {w w' : World} {base g g' t t' : Nat} {ts : List T3} {rows : Nat → List Int} (h : Tw w base g t (ts.map slV) rows) (hb : Below w.heap.size w w') (hh : w'.heap[g']? = some (.cells (ts.map slV).toArray t' (0, 0))) : Tv w' g' ts rows := by
  have hl : ts.length = 12 := by simpa using h.len
  refine ⟨hl, ?_, fun i hi => ?_, fun i hi => ?_⟩
  · rcases Nat.lt_or_ge g' w'.heap.size with hlt | hge
    · exact hlt
    · rw [Array.getElem?_eq_none hge] at hh; cases hh
  · simp [World.cell?, hh, tAt, List.getElem?_eq_getElem (show i < ts.length by omega)]
  · obtain ⟨A, c, e, h1, _⟩ := (h.own i hi).is_
    have e2 : rowAt (ts.map slV) i = slV (tAt ts i) := by simp [rowAt, tAt, List.getElem?_eq_getElem (show i < ts.length by omega)]
    rw [e2] at e
    injection e with e3 e4 e5
    rw [e3, e4, e5]
    exact h1.below hb
end Go.Proofs.YtpnjnedfcdppaaaGreatDoor

/-
  skip.Path$1.
-/
namespace Go.Proofs.YtpnjnedfcdppaaaGreatDoor
open Go.RowKit

theorem stop_info : (Tryz.prog.info? 173).map (fun i => (i.zero, i.size, i.bytes)) = some (some (.agg #[I 0, I 0]), 2, 16) := by kernel_rfl
def Sv (w : World) (q : Nat) (p : PL) : Prop := ∃ A c, w.heap[q]? = some (.cells #[.slice A p.length c] 170 (0, 0)) ∧ w.ownsRow (q + 1) 173 2 (.slice A p.length c) p.length (flat p)

theorem two_new (w : World) (r k : Int) (t : Nat) : ∀ j u, [I r, I k][j]? = some u → (w.alloc (.cells #[I r, I k] t)).cell? ((⟨w.heap.size, 0, none⟩ : Addr).add j) = some u := by
  intro j u hu
  rw [addn, Nat.zero_add]
  have := heap_alloc_new w (.cells #[I r, I k] t)
  rw [cell_of_row _ _ _ _ _ _ this]
  simpa using hu
theorem two_one (r k : Int) : ∀ u ∈ [I r, I k], u.oneCell' = true := by
  intro u hu
  simp at hu
  rcases hu with rfl | rfl <;> rfl
theorem var_after {w w' : World} {q t : Nat} {v u : Value} {base e s n : Nat} {xs : List Value} {o : Obj} (h : w.heap[q]? = some (.cells #[v] t (0, 0))) (ho : w.ownsRow base e s u n xs) (hb : q < base) (hg : (w.alloc o).grownBy w' u.ownBlock) :
    w'.heap[q]? = some (.cells #[v] t (0, 0)) := by
  have hlt : q < w.heap.size := by
    rcases Nat.lt_or_ge q w.heap.size with hlt | hge
    · exact hlt
    · rw [Array.getElem?_eq_none hge] at h; cases h
  rw [hg.block q (by simp; omega) ?_, Below.heap_alloc _ _ _ hlt]
  · exact h
  · intro e2
    have := own_ge1 ho q e2.symm
    omega

set_option maxRecDepth 100000 in
set_option maxHeartbeats 1000000 in
theorem path1_any (r k : Int) (q : Nat) (p : PL) (w : World) (h : Sv w q p) (hp : p.length ≤ 10000) :
    Calls Tryz.prog 209 #[I r, I k, .pointer (some ⟨q, 0, none⟩)] w fun e w' => e = .returned (.tuple #[]) ∧ Below q w w' ∧ Sv w' q (p ++ [(r, k)]) := by
  obtain ⟨A, c, hq, hown⟩ := h
  obtain ⟨n, hn⟩ : ∃ n, p.length = n := ⟨_, rfl⟩
  rw [hn] at hq hown hp
  have HN := Lib.hid hn
  clear hn
  have hlt : q < w.heap.size := by
    rcases Nat.lt_or_ge q w.heap.size with hlt | hge
    · exact hlt
    · rw [Array.getElem?_eq_none hge] at hq; cases hq
  have hcell : w.cell? ⟨q, 0, none⟩ = some (.slice A n c) := by simp [World.cell?, hq]
  have HQ := Lib.hid hq
  have HOWN := Lib.hid hown
  obtain ⟨i0, hi, hz0, hz1, hz2⟩ := info_parts stop_info
  have HI := Lib.hid hi
  have HZ0 := Lib.hid hz0
  have HZ1 := Lib.hid hz1
  have HZ2 := Lib.hid hz2
  clear hi hz0 hz1 hz2 hq hown
  go_enter Tryz.func209, Tryz.ntmps209
  go_wp2_with (first
    | (at_builtin
       refine wpList_append_lies _ rfl (.tmp 5) (.tmp 9) 170 rfl (q + 1) 173 i0 _ 2 16 Tryz.underlying170 HI.out HZ0.out HZ1.out HZ2.out rfl (by omega) (.slice A n c) n (flat p) rfl (own_below HOWN.out ((Below.refl _ _).alloc (Nat.le_refl _) _)) ⟨w.heap.size, 0, none⟩ 1 1 [I r, I k] rfl rfl (two_new w r k _) (two_one r k) (by omega) (by unfold maxLen; omega) (by omega) (by simp; omega) (w.heap.size + 1) (by simp) ?_
       intro g2 cap2 w2 hown2 hgrow2 hat2 hlt2
       have hq2 := var_after HQ.out HOWN.out (by omega) hgrow2
       have hcell2 : w2.cell? ⟨q, 0, none⟩ = some (.slice A n c) := by simp [World.cell?, hq2]
       have hfz2 : w2.frozen? ⟨q, 0, none⟩ = false := by simp [World.frozen?, hq2]
       have HQ2 := Lib.hid hq2
       clear hq2)
    | fail)
  go_end0
  refine ⟨rfl, ?_, ?_⟩
  · refine Below.setCell (Below.grown ((Below.refl _ _).alloc (by omega) _) hgrow2 (by simp; omega) ?_) (by exact Nat.le_refl _) _
    intro k' hk'
    have := own_ge1 HOWN.out k' hk'
    omega
  · refine ⟨some ⟨g2, 0, none⟩, cap2, ?_, ?_⟩
    · have := cells_set' (cs := [.slice A n c]) HQ2.out 0 (.slice (some ⟨g2, 0, none⟩) (n + 1) cap2)
      simpa [HN.out] using this
    · have := own_set hown2 (p := ⟨q, 0, none⟩) (by show q < q + 1; omega) (.slice (some ⟨g2, 0, none⟩) (n + 1) cap2)
      rw [flat_append]
      simpa [HN.out, flat] using this
end Go.Proofs.YtpnjnedfcdppaaaGreatDoor

/-
  (*tower).walk, told to skip.Path$1; skip.Path.
-/
namespace Go.Proofs.YtpnjnedfcdppaaaGreatDoor
open Go.RowKit

set_option maxRecDepth 100000 in
set_option maxHeartbeats 2000000 in
theorem walk_any (g : Nat) (ts : List T3) (l : List Int) (key : Int) (w0 w : World) (hv : Tv w0 g ts (rowL l)) (hR : Rise l) (hb : Below w0.heap.size w0 w) (hs : Sv w w0.heap.size []) :
    Calls Tryz.prog 208 #[.pointer (some ⟨g, 0, none⟩), I key, .func (.func 209) #[] #[.pointer (some ⟨w0.heap.size, 0, none⟩)]] w
      fun e w' => e = .returned (.tuple #[]) ∧ Below w0.heap.size w0 w' ∧ Sv w' w0.heap.size (stops l key) := by
  have H := Lib.hid hv
  have HR := Lib.hid hR
  have HB := Lib.hid hb
  have HS := Lib.hid hs
  clear hv hR hb hs
  go_enter Tryz.func208, Tryz.ntmps208
  go_wp2
  go_loopw [6, 7] (fun a r wr => ∃ m : Nat, m ≤ 12 ∧ r = .int .i64 (11 - (m : Int)) ∧ a = .int .i64 (stTo l key m).2 ∧ Below w0.heap.size w0 wr ∧ Sv wr w0.heap.size (stTo l key m).1) (fun _ r _ => (intOf r + 1).toNat)
  case atStart => exact ⟨0, by omega, rfl, rfl, HB.out, HS.out⟩
  case round =>
    obtain ⟨m, hm, rfl, rfl, hbl, hsv⟩ := hrel
    by_cases hlt : m < 12
    · obtain ⟨r, hr⟩ : ∃ r : Nat, 11 - m = r := ⟨_, rfl⟩
      have hri : (11 : Int) - (m : Int) = (r : Int) := by omega
      have hr12 : r < 12 := by omega
      have hcell : wr.cell? ⟨g, r, none⟩ = some (slV (tAt ts r)) := (hbl.cell (by exact H.out.lt)).trans (H.out.cell r hr12)
      have his := H.out.is_ r hr12
      obtain ⟨⟨A', n', c'⟩, hx⟩ : ∃ x, tAt ts r = x := ⟨_, rfl⟩
      rw [hx] at hcell his
      simp only at his
      have hcell' : wr.cell? ⟨g, r, none⟩ = some (.slice A' n' c') := hcell
      clear hcell
      obtain ⟨L, hL⟩ : ∃ L, rowL l r = L := ⟨_, rfl⟩
      rw [hL] at his
      have hpw : L.Pairwise (· < ·) := by rw [← hL]; exact rowL_pw HR.out.pw r
      have hn' : n' ≤ 200 := by rw [← his.len, ← hL]; have := rowL_len l r; have := HR.out.len; omega
      obtain ⟨a, ha⟩ : ∃ a, (stTo l key m).2 = a := ⟨_, rfl⟩
      obtain ⟨p, hp⟩ : ∃ p, (stTo l key m).1 = p := ⟨_, rfl⟩
      have hpl : p.length ≤ 2400 := by
        rw [← hp]
        have h1 := stTo_len l key m
        have h2 := HR.out.len
        have h3 : m * l.length ≤ 12 * 200 := Nat.mul_le_mul hm h2
        omega
      have hst : stTo l key (m + 1) = (p ++ (pas L a key).map (fun k => ((r : Int), k)), lastD (pas L a key) a) := by
        show (_, _) = _
        rw [hr, ha, hp, hL, hri]
      have HST := Lib.hid hst
      have HIS := Lib.hid his
      have HPW := Lib.hid hpw
      have HSV := Lib.hid hsv
      have HBL := Lib.hid hbl
      rw [ha]
      rw [hp] at HSV
      rw [hri]
      have HRI := Lib.hid hri
      have HL := Lib.hid his.len
      clear hst his hpw hsv hbl ha hp hL hx hr hri
      go_wp2
      go_loopw [6, 20] (fun z j wr => ∃ k : Nat, k ≤ n' ∧ j = .int .i64 k ∧ z = .int .i64 (lastD (pas (L.take k) a key) a) ∧ Below w0.heap.size w0 wr ∧ Sv wr w0.heap.size (p ++ (pas (L.take k) a key).map (fun x => ((r : Int), x)))) (fun _ j _ => n' - (intOf j).toNat)
      case atStart => exact ⟨0, Nat.zero_le _, rfl, rfl, HBL.out, by simpa [pas] using HSV.out⟩
      case round =>
        obtain ⟨k, hk, rfl, rfl, hbl2, hsv2⟩ := hrel
        have HB2 := Lib.hid hbl2
        have HS2 := Lib.hid hsv2
        clear hsv2
        obtain ⟨z, hz⟩ : ∃ z, lastD (pas (L.take k) a key) a = z := ⟨_, rfl⟩
        rw [hz]
        by_cases hkn : k < n'
        · have hkl : k < L.length := by rw [HL.out]; exact hkn
          obtain ⟨b, off, rfl, hbw, hcs⟩ := HIS.out.at_ (by omega)
          obtain ⟨x, hx⟩ : ∃ x, L[k] = x := ⟨_, rfl⟩
          have hc0 : wr.cell? ⟨b, off + k, none⟩ = some (I x) := by rw [← hx]; exact (hbl2.cell (by exact hbw)).trans (hcs k hkn)
          have hgt := pas_gt HPW.out hkl a key
          rw [hx, hz] at hgt
          have hsn := pas_snoc L k hkl a key
          rw [hx] at hsn
          clear hcs hbl2
          by_cases hge : key ≤ x
          · have hfin : stTo l key (m + 1) = (p ++ (pas (L.take k) a key).map (fun x => ((r : Int), x)), z) := by
              have h1 := pas_stop HPW.out hkl (a := a) (key := key) (by rw [hx]; exact hge)
              rw [HST.out, ← h1, hz]
            have HF := Lib.hid hfin
            clear hx hgt hsn hfin hz
            go_wp2
            go_roundw
            case rel => exact ⟨m + 1, by omega, by have := HRI.out; congr 1; omega, by rw [HF.out], HB2.out, by rw [HF.out]; exact HS2.out⟩
            case measure => first | (simp [intOf]; done) | (simp [intOf]; omega)
          · by_cases hat : z < x
            · have hcond : a < x ∧ x < key := ⟨hgt.1 hat, by omega⟩
              rw [if_pos hcond] at hsn
              have hlen : (p ++ (pas (L.take k) a key).map (fun x => ((r : Int), x))).length ≤ 10000 := by
                rw [List.length_append, List.length_map]
                have := pas_len (L.take k) a key
                rw [List.length_take] at this
                omega
              have HCALL := Lib.hid (path1_any r x w0.heap.size _ wr HS2.out hlen)
              have HSN := Lib.hid hsn
              clear hx hgt hsn hz hlen hcond
              go_wp2_with fail
              refine HCALL.out.mono ?_
              rintro e w1 ⟨rfl, hb1, hs1⟩
              have HB3 := Lib.hid (HB2.out.trans hb1)
              have HS3 : Hid (Sv w1 w0.heap.size (p ++ (pas (L.take (k + 1)) a key).map (fun x => ((r : Int), x)))) := by
                show Sv w1 w0.heap.size (p ++ (pas (L.take (k + 1)) a key).map (fun x => ((r : Int), x)))
                rw [HSN.out, List.map_append, ← List.append_assoc]
                exact hs1
              clear hb1 hs1
              go_wp2
              go_roundw
              case rel => exact ⟨k + 1, by omega, by go_num, by rw [HSN.out, lastD_snoc], HB3.out, HS3.out⟩
              case measure => first | (simp [intOf]; done) | (simp [intOf]; omega)
            · have hcond : ¬ (a < x ∧ x < key) := fun h => hat (hgt.2 h.1)
              rw [if_neg hcond] at hsn
              have HSN := Lib.hid hsn
              have HZ := Lib.hid hz
              clear hx hgt hsn hz hcond
              go_wp2
              go_roundw
              case rel => exact ⟨k + 1, by omega, by go_num, by rw [HSN.out, HZ.out], HB2.out, by rw [HSN.out]; exact HS2.out⟩
              case measure => first | (simp [intOf]; done) | (simp [intOf]; omega)
        · have hfin : stTo l key (m + 1) = (p ++ (pas (L.take k) a key).map (fun x => ((r : Int), x)), z) := by
            rw [← hz, List.take_of_length_le (by rw [HL.out]; omega)]
            exact HST.out
          have HF := Lib.hid hfin
          clear hfin hz hbl2
          go_wp2
          go_roundw
          case rel => exact ⟨m + 1, by omega, by have := HRI.out; congr 1; omega, by rw [HF.out], HB2.out, by rw [HF.out]; exact HS2.out⟩
          case measure => first | (simp [intOf]; done) | (simp [intOf]; omega)
    · obtain rfl : m = 12 := by omega
      have HSV := Lib.hid hsv
      have HBL := Lib.hid hbl
      clear hsv hbl
      go_wp2
      go_end0
      exact ⟨rfl, HBL.out, HSV.out⟩
end Go.Proofs.YtpnjnedfcdppaaaGreatDoor

/-
  skip.Path.
-/
namespace Go.Proofs.YtpnjnedfcdppaaaGreatDoor
open Go.RowKit

theorem own_ps {w : World} {base t n c : Nat} {A : Option Addr} {p : PL} (h : w.ownsRow base t 2 (.slice A n c) p.length (flat p)) : PS w A p.length c p := by
  rcases h.2 with ⟨e, h0⟩ | ⟨g, cap, cur, e, hb, hg, hnc, _, hsz, htk⟩
  · have hp : p = [] := List.eq_nil_of_length_eq_zero h0
    subst hp
    exact ⟨rfl, Rd.none_⟩
  · injection e with e1 e2 e3
    subst e1 e2 e3
    have hlt : g < w.heap.size := by
      rcases Nat.lt_or_ge g w.heap.size with hlt | hge
      · exact hlt
      · rw [Array.getElem?_eq_none hge] at hg; cases hg
    refine ⟨rfl, hnc, fun _ => ⟨g, 0, rfl, hlt, fun i hi j hj => ?_⟩⟩
    rw [cell_of_row _ _ _ _ _ _ hg]
    obtain ⟨h0, h1⟩ := flat_at p i hi
    have hcur : cur.toList[0 + (i * 2 + j)]? = (flat p)[i * 2 + j]? := by
      rw [← htk, List.getElem?_take, if_pos (by omega), Nat.zero_add]
    have : cur[0 + (i * 2 + j)]? = (flat p)[i * 2 + j]? := by simpa using hcur
    rw [this]
    rcases (show j = 0 ∨ j = 1 by omega) with rfl | rfl
    · simpa [pf, List.getElem?_eq_getElem hi] using h0
    · simpa [pf, List.getElem?_eq_getElem hi] using h1

set_option maxHeartbeats 1000000 in
theorem Path_arg (A : Option Addr) (n c : Nat) (l : List Int) (key : Int) (w : World) (h : IS w A n c l) (hR : Rise l) (hk : kyB key = false) :
    Calls Tryz.prog 160 #[.slice A n c, I key] w fun e w' => e = .returned (.tuple #[.slice none 0 0, I 1]) ∧ Below w.heap.size w w' := by
  have hn : n ≤ 200 := by rw [← h.len]; exact hR.len
  have HC := Lib.hid (checkS_any A n c l w h (by omega))
  rw [chkK_zero.2 hR] at HC
  have HK := Lib.hid hk
  clear h hR hk
  go_enter Tryz.func160, Tryz.ntmps160
  go_wp2_with fail
  refine HC.out.mono ?_
  rintro e w1 ⟨rfl, hb1⟩
  have HB1 := Lib.hid hb1
  clear hb1
  go_wp2_with (go_at_call 199; refine (isKeyS_is _ _ _ HK.out).mono ?_; rintro e w' ⟨rfl, rfl⟩)
  go_ret2
  exact ⟨rfl, HB1.out⟩
def RetStops (p : PL) (w : World) (e : Ending) (w' : World) : Prop := ∃ A c, e = .returned (.tuple #[.slice A p.length c, I 0]) ∧ PS w' A p.length c p ∧ Below w.heap.size w w'
set_option maxRecDepth 100000 in
set_option maxHeartbeats 2000000 in
theorem Path_ok (A : Option Addr) (n c : Nat) (l : List Int) (key : Int) (w : World) (h : IS w A n c l) (hR : Rise l) (hk : kyB key = true) (hT : Tb w) :
    Calls Tryz.prog 160 #[.slice A n c, I key] w (RetStops (stops l key) w) := by
  have hn : n ≤ 200 := by rw [← h.len]; exact hR.len
  have HC := Lib.hid (checkS_any A n c l w h (by omega))
  rw [chkK_zero.2 hR] at HC
  have HK := Lib.hid hk
  have H := Lib.hid h
  have HT := Lib.hid hT
  have HR := Lib.hid hR
  clear h hR hk hT
  go_enter Tryz.func160, Tryz.ntmps160
  go_wp2_with fail
  refine HC.out.mono ?_
  rintro e w1 ⟨rfl, hb1⟩
  have HB1 := Lib.hid hb1
  have HTO := Lib.hid (towerOf_any A n c l w1 (H.out.below hb1) (by omega) (HT.out.next hb1))
  clear hb1
  go_wp2_with (first | (go_at_call 199; refine (isKeyS_is _ _ _ HK.out).mono ?_; rintro e w' ⟨rfl, rfl⟩) | fail)
  refine HTO.out.mono ?_
  rintro e w2 ⟨vs, rfl, htw, hb2⟩
  obtain ⟨ts, hts, rfl⟩ := htw.slices
  obtain ⟨a0, a1, a2, a3, a4, a5, a6, a7, a8, a9, a10, a11, rfl⟩ := set12 ts hts
  have HTW := Lib.hid htw
  have HB2 := Lib.hid (HB1.out.trans (hb2.mono HB1.out.size))
  clear htw hb2 HTO
  simp only [List.map_cons, List.map_nil]
  go_wp2_with fail
  have htv : Tv (w2.alloc (.cells #[slV a0, slV a1, slV a2, slV a3, slV a4, slV a5, slV a6, slV a7, slV a8, slV a9, slV a10, slV a11] 192)) w2.heap.size [a0, a1, a2, a3, a4, a5, a6, a7, a8, a9, a10, a11] (rowL l) := tw_tv HTW.out ((Below.refl _ _).alloc (Nat.le_refl _) _) (heap_alloc_new _ _)
  have hb3 : Below w.heap.size w (w2.alloc (.cells #[slV a0, slV a1, slV a2, slV a3, slV a4, slV a5, slV a6, slV a7, slV a8, slV a9, slV a10, slV a11] 192)) := HB2.out.alloc HB2.out.size _
  have hsz : (w2.alloc (.cells #[slV a0, slV a1, slV a2, slV a3, slV a4, slV a5, slV a6, slV a7, slV a8, slV a9, slV a10, slV a11] 192)).heap.size = w2.heap.size + 1 := by simp
  generalize hw3 : w2.alloc _ = w3 at htv hb3 hsz ⊢
  generalize hg2 : w2.heap.size = g2 at htv hsz ⊢
  have hcall := walk_any g2 _ l key w3 (w3.alloc (.cells #[.slice none 0 0] 170)) htv HR.out ((Below.refl _ _).alloc (Nat.le_refl _) _) ⟨none, 0, heap_alloc_new _ _, World.ownsRow_nil _ _ _ _⟩
  have hbs : w.heap.size ≤ w3.heap.size := hb3.size
  rw [hsz] at hcall
  have HCALL := Lib.hid hcall
  have HB3 := Lib.hid hb3
  have HSZ := Lib.hid hsz
  clear htv hcall hw3 hg2 HTW hb3 hsz
  refine HCALL.out.mono ?_
  rintro e w4 ⟨rfl, hb4, A', c', hq, hown⟩
  have hcell4 : w4.cell? ⟨g2 + 1, 0, none⟩ = some (.slice A' (stops l key).length c') := by simp [World.cell?, hq]
  have HPS := Lib.hid (own_ps hown)
  have HB4 := Lib.hid (HB3.out.trans (hb4.mono (by have := HSZ.out; omega)))
  clear hb4 hq hown HCALL
  go_wp2
  go_ret2
  exact ⟨A', c', rfl, HPS.out, HB4.out⟩
end Go.Proofs.YtpnjnedfcdppaaaGreatDoor

/-
  (*tower).high, slices.Clone of rows.
-/
namespace Go.Proofs.YtpnjnedfcdppaaaGreatDoor
open Go.RowKit

set_option maxRecDepth 100000 in
set_option maxHeartbeats 1000000 in
theorem high_any (g : Nat) (ts : List T3) (l : List Int) (w : World) (h : Tv w g ts (rowL l)) (hl : l.length ≤ 1000) :
    Calls Tryz.prog 129 #[.pointer (some ⟨g, 0, none⟩)] w fun e w' => e = .returned (I (hiR l)) ∧ Below w.heap.size w w' := by
  have H := Lib.hid h
  clear h
  go_enter Tryz.func129, Tryz.ntmps129
  go_wp2
  go_loopw [3] (fun i wr => ∃ k : Nat, k ≤ 12 ∧ i = .int .i64 k ∧ (∀ i, i < k → rowL l i ≠ []) ∧ Below w.heap.size w wr) (fun i _ => 12 - (intOf i).toNat)
  case atStart => exact ⟨0, by omega, rfl, fun i hi => absurd hi (by omega), Below.refl _ _⟩
  case round =>
    obtain ⟨k, hk, rfl, hall, hnx⟩ := hrel
    by_cases hlt : k < 12
    · have hcell : wr.cell? ⟨g, k, none⟩ = some (slV (tAt ts k)) := (hnx.cell (by exact H.out.lt)).trans (H.out.cell k hlt)
      have hlen := (H.out.is_ k hlt).len
      obtain ⟨x, hx⟩ : ∃ x, tAt ts k = x := ⟨_, rfl⟩
      obtain ⟨A', m, c'⟩ := x
      rw [hx] at hcell hlen
      have hm : m ≤ 1000 := by have := rowL_len l k; simp only at hlen; omega
      by_cases h0 : 0 < m
      · have HA : Hid (∀ i, i < k + 1 → rowL l i ≠ []) := fun i hi => by
          rcases Nat.lt_or_ge i k with h1 | h1
          · exact hall i h1
          · obtain rfl : i = k := by omega
            intro e
            rw [e] at hlen
            simp at hlen
            omega
        clear hall hlen hx
        have hd : decide (0 < m) = true := by simpa using h0
        go_wp2
        go_roundw
        case rel => exact ⟨k + 1, by omega, by go_num, HA.out, by first | exact hnx | exact below_drewN hnx _⟩
        case measure => simp [intOf]; omega
      · have HF : Hid ((k : Int) = (hiR l : Int)) := by
          show (k : Int) = _
          rw [hiR_is hk hall (.inr (List.eq_nil_of_length_eq_zero (by simp only at hlen; omega)))]
        clear hall hlen hx
        obtain rfl : m = 0 := by omega
        go_wp2
        go_ret
        exact ⟨ret_int HF.out, by first | exact hnx | exact below_drewN hnx _⟩
    · have HF : Hid ((k : Int) = (hiR l : Int)) := by
        show (k : Int) = _
        rw [hiR_is hk hall (.inl (by omega))]
      clear hall
      go_wp2
      go_ret
      exact ⟨ret_int HF.out, by first | exact hnx | exact below_drewN hnx _⟩

theorem row_info : (Tryz.prog.info? 46).map (fun i => (i.zero, i.size, i.bytes)) = some (some (.slice none 0 0), 1, 24) := by kernel_rfl
theorem one_slV (ts : List T3) : ∀ u ∈ ts.map slV, u.oneCell' = true := by
  intro u hu
  obtain ⟨t, _, rfl⟩ := List.mem_map.1 hu
  rfl
set_option maxRecDepth 100000 in
set_option maxHeartbeats 1000000 in
theorem cloneR_any (g h : Nat) (ts : List T3) (L : Nat → List Int) (w : World) (hv : Tv w g ts L) (hh : h ≤ 12) :
    Calls Tryz.prog 128 #[.slice (some ⟨g, 0, none⟩) h 12] w fun e w' => ∃ v, e = .returned v ∧ w'.ownsRow w.heap.size 46 1 v h ((ts.take h).map slV) ∧ Below w.heap.size w w' := by
  have H := Lib.hid hv
  have hln : ((ts.take h).map slV).length = h * 1 := by simp [hv.len]; omega
  have HC : Hid (∀ j u, ((ts.take h).map slV)[j]? = some u → w.cell? ⟨g, j, none⟩ = some u) := fun j u hu => by
    rw [List.getElem?_map, List.getElem?_take] at hu
    by_cases hj : j < h
    · rw [if_pos hj] at hu
      rw [hv.cell j (by omega)]
      unfold tAt
      rw [List.getElem?_eq_getElem (by have := hv.len; omega)] at hu ⊢
      simpa using hu
    · rw [if_neg hj] at hu; cases hu
  have HLN := Lib.hid hln
  clear hv hln
  obtain ⟨i0, hi, hz0, hz1, hz2⟩ := info_parts row_info
  have HI := Lib.hid hi
  have HZ0 := Lib.hid hz0
  have HZ1 := Lib.hid hz1
  have HZ2 := Lib.hid hz2
  have hgl := H.out.lt
  clear hi hz0 hz1 hz2
  have heq := fun w => Lib.run_eql_slice_nil (P := Tryz.prog) w 38 46 (some ⟨g, 0, none⟩) h 12 0 0 Tryz.underlying38
  go_enter Tryz.func128, Tryz.ntmps128
  go_wp2_with (first
    | (at_builtin
       refine wpList_append_own_at _ rfl (.tmp 5) (.tmp 6) 38 rfl w.heap.size 46 i0 _ 1 24 Tryz.underlying38 HI.out HZ0.out HZ1.out HZ2.out rfl (by omega) (.slice (some ⟨w.heap.size, 0, none⟩) 0 0) 0 [] rfl (World.ownsRow_made w _ 0 (Nat.le_refl _) (by unfold maxLen; omega) (by simp)) ⟨g, 0, none⟩ h 12 ((ts.take h).map slV) rfl HLN.out (fun j u hu => ?_) (one_slV _) (by unfold maxLen; omega) (by omega) (by simp) ?_
       · rw [addn, Nat.zero_add]; exact (Below.cell ((Below.refl _ _).alloc (Nat.le_refl _) _) (by exact hgl)).trans (HC.out j u hu)
       intro v2 w2 hown2 hgrow2 _ hat2)
    | fail)
  go_ret
  exact ⟨v2, rfl, by simpa using hown2, Below.grown ((Below.refl _ _).alloc (Nat.le_refl _) _) hgrow2 (by simp) (by simp [Value.ownBlock])⟩
end Go.Proofs.YtpnjnedfcdppaaaGreatDoor

/-
  skip.rowsOf, skip.Rows.
-/
namespace Go.Proofs.YtpnjnedfcdppaaaGreatDoor
open Go.RowKit

theorem own_ri {w w' : World} {g h base : Nat} {ts : List T3} {l : List Int} {v : Value} (hv : Tv w g ts (rowL l)) (hb : Below w.heap.size w w') (hh : hiR l = h) (ho : w'.ownsRow base 46 1 v h ((ts.take h).map slV)) : ∃ A m c, v = .slice A m c ∧ RI w' A m c (rowsL l) := by
  have h12 : h ≤ 12 := by rw [← hh]; exact hiR_le l
  have hl := hv.len
  rcases ho.2 with ⟨rfl, h0⟩ | ⟨g2, cap, cur, rfl, _, hg, hnc, _, hsz, htk⟩
  · refine ⟨none, 0, 0, rfl, ?_⟩
    have : rowsL l = [] := List.eq_nil_of_length_eq_zero (by rw [rowsL_len]; omega)
    rw [this]
    exact RI.none_
  · refine ⟨_, h, cap, rfl, by rw [rowsL_len]; exact hh, hnc, fun _ => ⟨g2, 0, rfl, ?_, fun i hi => ?_⟩⟩
    · rcases Nat.lt_or_ge g2 w'.heap.size with hlt | hge
      · exact hlt
      · rw [Array.getElem?_eq_none hge] at hg; cases hg
    · refine ⟨(tAt ts i).1, (tAt ts i).2.1, (tAt ts i).2.2, ?_, ?_⟩
      · rw [cell_of_row _ _ _ _ _ _ hg]
        have : ((ts.take h).map slV)[i]? = some (slV (tAt ts i)) := by
          simp [List.getElem?_take, hi, tAt, List.getElem?_eq_getElem (show i < ts.length by omega)]
        rw [← htk, List.getElem?_take, if_pos (by omega)] at this
        simpa using this
      · rw [rowsL_at l i (by omega)]
        exact (hv.is_ i (by omega)).below hb

theorem tower_len : Tryz.prog.arrayLen 192 = 12 := by kernel_rfl
theorem tower_under : Tryz.prog.underlying 192 = some (.array (Tryz.prog.arrayLen 192) (Tryz.prog.elem 192)) := by kernel_rfl
theorem tower_elem : Tryz.prog.elem 192 = 46 := by kernel_rfl
theorem run_head (g h : Nat) (hh : h ≤ 12) (w : World) : (Instr.sliceAt 192 (.pointer (some ⟨g, 0, none⟩)) none (some (I h)) none).run Tryz.prog w = .ok (.slice (some ⟨g, 0, none⟩) h 12) w := by
  obtain ⟨i0, hi, hz0, hz1, hz2⟩ := info_parts row_info
  rw [run_sliceAt_array_h w 192 ⟨g, 0, none⟩ tower_under .i64 (h : Int) (by omega) (by rw [tower_len]; omega), tower_len, tower_elem]
  simp [sizeOf, typeInfo, hi, slicedAt, Addr.add]

set_option maxRecDepth 100000 in
set_option maxHeartbeats 2000000 in
theorem rowsOf_any (A : Option Addr) (n c : Nat) (l : List Int) (w : World) (h : IS w A n c l) (hn : n ≤ 1000) (hT : Tb w) :
    Calls Tryz.prog 59 #[.slice A n c] w (RetRows (rowsL l) w) := by
  have HC := Lib.hid (towerOf_any A n c l w h hn hT)
  have hll : l.length ≤ 1000 := by rw [h.len]; exact hn
  clear h hT
  go_enter Tryz.func59, Tryz.ntmps59
  go_wp2_with fail
  refine HC.out.mono ?_
  rintro e w1 ⟨vs, rfl, htw, hb1⟩
  obtain ⟨ts, hts, rfl⟩ := htw.slices
  obtain ⟨a0, a1, a2, a3, a4, a5, a6, a7, a8, a9, a10, a11, rfl⟩ := set12 ts hts
  have HTW := Lib.hid htw
  have HB1 := Lib.hid hb1
  clear htw hb1 HC
  simp only [List.map_cons, List.map_nil]
  go_wp2_with fail
  have htv : Tv (w1.alloc (.cells #[slV a0, slV a1, slV a2, slV a3, slV a4, slV a5, slV a6, slV a7, slV a8, slV a9, slV a10, slV a11] 192)) w1.heap.size [a0, a1, a2, a3, a4, a5, a6, a7, a8, a9, a10, a11] (rowL l) := tw_tv HTW.out ((Below.refl _ _).alloc (Nat.le_refl _) _) (heap_alloc_new _ _)
  have hb2 : Below w.heap.size w (w1.alloc (.cells #[slV a0, slV a1, slV a2, slV a3, slV a4, slV a5, slV a6, slV a7, slV a8, slV a9, slV a10, slV a11] 192)) := HB1.out.alloc HB1.out.size _
  generalize hg2 : w1.heap.size = g2 at htv ⊢
  generalize hw2 : w1.alloc _ = w2 at htv hb2 ⊢
  have HTV := Lib.hid htv
  have HB2 := Lib.hid hb2
  have HHI := Lib.hid (high_any g2 _ l w2 htv hll)
  clear htv hb2 HTW hg2 hw2
  refine HHI.out.mono ?_
  rintro e w3 ⟨rfl, hb3⟩
  obtain ⟨h, hh⟩ : ∃ h, hiR l = h := ⟨_, rfl⟩
  have h12 : h ≤ 12 := by rw [← hh]; exact hiR_le l
  rw [hh]
  have HH := Lib.hid hh
  have HTV3 := Lib.hid (HTV.out.below hb3)
  have HB3 := Lib.hid (HB2.out.trans (hb3.mono HB2.out.size))
  clear hb3 hh HHI
  have hsl := run_head g2 h h12
  go_wp2_with fail
  refine (cloneR_any g2 h _ _ w3 HTV3.out h12).mono ?_
  rintro e w4 ⟨v, rfl, hown, hb4⟩
  have HRI := Lib.hid (own_ri HTV3.out hb4 HH.out hown)
  have HB4 := Lib.hid (HB3.out.trans (hb4.mono HB3.out.size))
  clear hown hb4
  go_wp2
  go_ret
  obtain ⟨A', m, c', rfl, hri⟩ := HRI.out
  exact ⟨A', m, c', rfl, hri, HB4.out⟩

def RetRows2 (L : List (List Int)) (w : World) (e : Ending) (w' : World) : Prop := ∃ A m c, e = .returned (.tuple #[.slice A m c, I 0]) ∧ RI w' A m c L ∧ Below w.heap.size w w'
set_option maxHeartbeats 1000000 in
theorem Rows_ok (A : Option Addr) (n c : Nat) (l : List Int) (w : World) (h : IS w A n c l) (hR : Rise l) (hT : Tb w) :
    Calls Tryz.prog 66 #[.slice A n c] w (RetRows2 (rowsL l) w) := by
  have hn : n ≤ 200 := by rw [← h.len]; exact hR.len
  have HC := Lib.hid (checkS_any A n c l w h (by omega))
  rw [chkK_zero.2 hR] at HC
  have H := Lib.hid h
  have HT := Lib.hid hT
  clear h hT hR
  go_enter Tryz.func66, Tryz.ntmps66
  go_wp2_with fail
  refine HC.out.mono ?_
  rintro e w1 ⟨rfl, hb1⟩
  have HB1 := Lib.hid hb1
  have HO := Lib.hid (rowsOf_any A n c l w1 (H.out.below hb1) (by omega) (HT.out.next hb1))
  clear hb1
  go_wp2_with fail
  refine HO.out.mono ?_
  rintro e w2 ⟨A', m, c', rfl, hri, hb2⟩
  have HRI := Lib.hid hri
  have HB2 := Lib.hid (HB1.out.trans (hb2.mono HB1.out.size))
  clear hri hb2
  go_wp2
  go_ret2
  exact ⟨A', m, c', rfl, HRI.out, HB2.out⟩
end Go.Proofs.YtpnjnedfcdppaaaGreatDoor

/-
  hedgref.RowsOf.
-/
namespace Go.Proofs.YtpnjnedfcdppaaaGreatDoor
open Go.RowKit

structure Ro (w : World) (B : Nat) (v : Value) (ts : List T3) (l : List Int) : Prop where
  own : w.ownsRow B 46 1 v ts.length (ts.map slV)
  rows : ∀ i, i < ts.length → OwnI w B (slV (tAt ts i)) (rowL l i)
theorem Ro.start (w : World) (B : Nat) (l : List Int) : Ro w B (.slice none 0 0) [] l := ⟨World.ownsRow_nil _ _ _ _, fun i h => absurd h (by simp)⟩
theorem Ro.below {w w' : World} {B : Nat} {v : Value} {ts : List T3} {l : List Int} (h : Ro w B v ts l) (hb : Below w.heap.size w w') : Ro w' B v ts l := ⟨own_below h.own hb, fun i hi => own_below (h.rows i hi) hb⟩
theorem own_apart {w : World} {B B' e e' s s' n n' : Nat} {v u : Value} {xs ys : List Value} (h : w.ownsRow B e s v n xs) (h' : w.ownsRow B' e' s' u n' ys) (hne : e ≠ e') : v.ownBlock = none ∨ v.ownBlock ≠ u.ownBlock := by
  rcases h.2 with ⟨rfl, _⟩ | ⟨g, cap, cur, rfl, _, hg, _⟩
  · exact .inl rfl
  · rcases h'.2 with ⟨rfl, _⟩ | ⟨g', cap', cur', rfl, _, hg', _⟩
    · right; simp [Value.ownBlock]
    · right
      intro e2
      simp [Value.ownBlock] at e2
      subst e2
      rw [hg] at hg'
      injection hg' with hg'
      injection hg' with _ ht
      exact hne ht
theorem Ro.append {w w' : World} {B : Nat} {v v' : Value} {ts : List T3} {l : List Int} {t : T3} (h : Ro w B v ts l) (ht : OwnI w B (slV t) (rowL l ts.length)) (hown : w'.ownsRow B 46 1 v' (ts ++ [t]).length ((ts ++ [t]).map slV)) (hg : w.grownBy w' v.ownBlock) : Ro w' B v' (ts ++ [t]) l := by
  refine ⟨hown, fun i hi => ?_⟩
  rw [List.length_append, List.length_singleton] at hi
  rcases Nat.lt_or_ge i ts.length with h1 | h1
  · have e : tAt (ts ++ [t]) i = tAt ts i := by unfold tAt; rw [List.getElem?_append_left h1]
    rw [e]
    exact World.ownsRow.kept (h.rows i h1) hg (own_apart (h.rows i h1) h.own (by decide))
  · obtain rfl : i = ts.length := by omega
    have e : tAt (ts ++ [t]) ts.length = t := by unfold tAt; simp
    rw [e]
    exact World.ownsRow.kept ht hg (own_apart ht h.own (by decide))
theorem Ro.ri {w : World} {B : Nat} {v : Value} {ts : List T3} {l : List Int} (h : Ro w B v ts l) (hh : hiR l = ts.length) : ∃ A m c, v = .slice A m c ∧ RI w A m c (rowsL l) := by
  rcases h.own.2 with ⟨rfl, h0⟩ | ⟨g2, cap, cur, rfl, _, hg, hnc, _, hsz, htk⟩
  · refine ⟨none, 0, 0, rfl, ?_⟩
    have : rowsL l = [] := List.eq_nil_of_length_eq_zero (by rw [rowsL_len]; omega)
    rw [this]
    exact RI.none_
  · refine ⟨_, ts.length, cap, rfl, by rw [rowsL_len]; exact hh, hnc, fun _ => ⟨g2, 0, rfl, ?_, fun i hi => ?_⟩⟩
    · rcases Nat.lt_or_ge g2 w.heap.size with hlt | hge
      · exact hlt
      · rw [Array.getElem?_eq_none hge] at hg; cases hg
    · refine ⟨(tAt ts i).1, (tAt ts i).2.1, (tAt ts i).2.2, ?_, ?_⟩
      · rw [cell_of_row _ _ _ _ _ _ hg]
        have : (ts.map slV)[i]? = some (slV (tAt ts i)) := by
          simp [tAt, List.getElem?_eq_getElem hi]
        rw [← htk, List.getElem?_take, if_pos (by omega)] at this
        simpa using this
      · rw [rowsL_at l i (by omega), Option.getD_some]
        obtain ⟨A', c', e, his, _⟩ := (h.rows i hi).is_
        injection e with e1 e2 e3
        rw [e1, e2, e3]
        exact his
theorem kon3 {w w1 w2 : World} (h : Below w.heap.size w w1) (hb : Below w1.heap.size w1 w2) : Below w.heap.size w w2 := h.trans (hb.mono h.size)
theorem rowL_take (l : List Int) (k r : Nat) (h : k < l.length) : rowL (l.take (k + 1)) r = if r < ht l[k] then rowL (l.take k) r ++ [l[k]] else rowL (l.take k) r := by
  rw [List.take_succ_eq_append_getElem h, rowL_append]

set_option maxRecDepth 100000 in
set_option maxHeartbeats 2000000 in
theorem RowsOf_any (A : Option Addr) (n c : Nat) (l : List Int) (w : World) (h : IS w A n c l) (hn : n ≤ 1000) :
    Calls Tryz.prog 107 #[.slice A n c] w (RetRows (rowsL l) w) := by
  have H := Lib.hid h
  have HL := Lib.hid h.len
  clear h
  obtain ⟨i0, hi, hz0, hz1, hz2⟩ := info_parts int_info
  have HI := Lib.hid hi
  have HZ0 := Lib.hid hz0
  have HZ1 := Lib.hid hz1
  have HZ2 := Lib.hid hz2
  clear hi hz0 hz1 hz2
  obtain ⟨i1, hi, hz0, hz1, hz2⟩ := info_parts row_info
  have RI_ := Lib.hid hi
  have RZ0 := Lib.hid hz0
  have RZ1 := Lib.hid hz1
  have RZ2 := Lib.hid hz2
  clear hi hz0 hz1 hz2
  go_enter Tryz.func107, Tryz.ntmps107
  go_wp2
  go_loopw [3, 4] (fun v i wr => ∃ ts : List T3, ts.length ≤ hiR l ∧ i = .int .i64 ts.length ∧ Ro wr w.heap.size v ts l ∧ Below w.heap.size w wr) (fun _ i _ => 13 - (intOf i).toNat)
  case atStart => exact ⟨[], Nat.zero_le _, rfl, Ro.start _ _ _, Below.refl _ _⟩
  case round =>
    obtain ⟨ts, hts, rfl, hro, hnx⟩ := hrel
    have hts12 : ts.length ≤ 12 := Nat.le_trans hts (hiR_le l)
    obtain ⟨r, hr⟩ : ∃ r, ts.length = r := ⟨_, rfl⟩
    rw [hr] at hts hts12 ⊢
    have HR := Lib.hid hr
    have HRO := Lib.hid hro
    have HNX := Lib.hid hnx
    have HTS := Lib.hid hts
    have HIS := Lib.hid (H.out.below hnx)
    have hz := hnx.size
    clear hro hnx hr hts
    obtain ⟨wo, rfl⟩ : ∃ wo, wo = wr := ⟨wr, rfl⟩
    go_wp2
    go_loopw [5, 12] (fun u j wi => ∃ k : Nat, k ≤ n ∧ j = .int .i64 k ∧ OwnI wi wo.heap.size u (rowL (l.take k) r) ∧ Below wo.heap.size wo wi) (fun _ j _ => n - (intOf j).toNat)
    case atStart => exact ⟨0, Nat.zero_le _, rfl, World.ownsRow_nil wo wo.heap.size 3 1, Below.refl _ _⟩
    case round =>
      obtain ⟨k, hk, rfl, hown, hni⟩ := hrel
      by_cases hlt : k < n
      · have hkl : k < l.length := by rw [HL.out]; exact hlt
        obtain ⟨b, off, rfl, hbw, hc⟩ := HIS.out.cell_at hlt
        obtain ⟨x, hx⟩ : ∃ x, l[k] = x := ⟨_, rfl⟩
        rw [hx] at hc
        have hc0 : wr.cell? ⟨b, off + k, none⟩ = some (I x) := (hni.cell (by exact hbw)).trans hc
        have HK := Lib.hid (rowL_take l k r hkl)
        rw [hx] at HK
        obtain ⟨m, hm⟩ : ∃ m, ht x = m := ⟨_, rfl⟩
        have hm12 : m ≤ 12 := by rw [← hm]; exact ht_le x
        have HH := Lib.hid (show Calls Tryz.prog 172 #[I x] wr fun e w' => e = .returned (I m) ∧ w' = wr by rw [← hm]; exact HeightOf_any x wr)
        rw [hm] at HK
        obtain ⟨xs, hxs⟩ : ∃ xs, rowL (l.take k) r = xs := ⟨_, rfl⟩
        have hxl : xs.length ≤ 1000 := by rw [← hxs]; have := rowL_len (l.take k) r; rw [List.length_take] at this; omega
        rw [hxs] at hown HK
        have HOWN := Lib.hid hown
        have HNI := Lib.hid hni
        have hzi := hni.size
        clear hc hx hm hown hni hxs
        by_cases hrm : r < m
        · rw [if_pos hrm] at HK
          go_wp2_with fail
          refine HH.out.mono ?_
          rintro e w' ⟨rfl, rfl⟩
          go_wp2_with (first
            | (at_builtin
               refine wpList_append_own_at _ rfl (.tmp 20) (.tmp 22) 46 rfl wo.heap.size 3 i0 _ 1 8 Tryz.underlying46 HI.out HZ0.out HZ1.out HZ2.out rfl (by omega) _ xs.length (xs.map I) rfl (own_below HOWN.out ((Below.refl _ _).alloc (Nat.le_refl _) _)) ⟨_, 0, none⟩ 1 1 [I x] rfl rfl (cell_one_new _ _ _) (one_I x) (by unfold maxLen; omega) (by omega) (by simp; omega) ?_
               intro v2 w2 hown2 hgrow2 _ hat2)
            | fail)
          go_roundw
          case rel =>
            refine ⟨k + 1, by omega, by go_num, ?_, ?_⟩
            · rw [HK.out]
              unfold OwnI
              simpa using hown2
            · exact Below.grown (HNI.out.alloc hzi _) hgrow2 (by simp; omega) (own_ge1 HOWN.out)
          case measure => simp [intOf]; omega
        · rw [if_neg hrm] at HK
          go_wp2_with fail
          refine HH.out.mono ?_
          rintro e w' ⟨rfl, rfl⟩
          go_wp2
          go_roundw
          case rel => exact ⟨k + 1, by omega, by go_num, by rw [HK.out]; exact HOWN.out, HNI.out⟩
          case measure => simp [intOf]; omega
      · rw [List.take_of_length_le (by rw [HL.out]; omega)] at hown
        obtain ⟨A', c', rfl, his, _⟩ := hown.is_
        have HRO2 := Lib.hid (HRO.out.below hni)
        have HB2 := Lib.hid (kon3 HNX.out hni)
        have HROW := Lib.hid (own_mono1 hown hz)
        obtain ⟨nr, hnr⟩ : ∃ nr, (rowL l r).length = nr := ⟨_, rfl⟩
        have hnrl : nr ≤ 1000 := by rw [← hnr]; have := rowL_len l r; have := HL.out; omega
        have HNR := Lib.hid hnr
        rw [hnr] at HROW ⊢
        have hzi := hni.size
        clear his hni hown hnr
        by_cases h0 : nr = 0
        · subst h0
          have HHI : Hid (hiR l = ts.length) := by
            show hiR l = ts.length
            rw [HR.out]
            rcases Nat.lt_or_ge r (hiR l) with h1 | h1
            · exact absurd (List.eq_nil_of_length_eq_zero HNR.out) (hiR_some l r h1)
            · have := HTS.out; omega
          go_wp2
          go_ret
          obtain ⟨A2, m2, c2, rfl, hri⟩ := HRO2.out.ri HHI.out
          exact ⟨A2, m2, c2, rfl, hri, HB2.out⟩
        · have HNE : Hid (rowL l r ≠ []) := by intro e; rw [e] at HNR; exact h0 HNR.out.symm
          have h0' : ((nr : Int) == 0) = false := by simp; omega
          go_wp2_with (first
            | (at_builtin
               refine wpList_append_own_at _ rfl (.tmp 29) (.tmp 31) 38 rfl w.heap.size 46 i1 _ 1 24 Tryz.underlying38 RI_.out RZ0.out RZ1.out RZ2.out rfl (by omega) _ ts.length (ts.map slV) rfl (own_below HRO2.out.own ((Below.refl _ _).alloc (Nat.le_refl _) _)) ⟨_, 0, none⟩ 1 1 [slV (A', nr, c')] rfl rfl (cell_one_new _ _ _) (one_slV [(A', nr, c')]) (by have := HR.out; unfold maxLen; omega) (by have := HR.out; omega) (by simp; omega) ?_
               intro v2 w2 hown2 hgrow2 _ hat2)
            | fail)
          go_roundw
          case rel =>
            refine ⟨ts ++ [(A', nr, c')], ?_, ?_, ?_, ?_⟩
            · rw [List.length_append, List.length_singleton, HR.out]
              rcases Nat.lt_or_ge r (hiR l) with h1 | h1
              · exact h1
              · exact absurd (hiR_none l r h1) HNE.out
            · rw [List.length_append, List.length_singleton, HR.out]
              go_num
            · refine Ro.append (HRO2.out.below ((Below.refl _ _).alloc (Nat.le_refl _) _)) (t := (A', nr, c')) ?_ (by simpa using hown2) hgrow2
              rw [HR.out]
              unfold OwnI
              rw [HNR.out]
              exact own_below HROW.out ((Below.refl _ _).alloc (Nat.le_refl _) _)
            · exact Below.grown (HB2.out.alloc HB2.out.size _) hgrow2 (by simp; omega) (own_ge1 HRO2.out.own)
          case measure => simp [intOf]; omega
end Go.Proofs.YtpnjnedfcdppaaaGreatDoor

/-
  hedgref.Stops.
-/
namespace Go.Proofs.YtpnjnedfcdppaaaGreatDoor
open Go.RowKit

theorem stTo_high (l : List Int) (key : Int) : ∀ m, m ≤ 12 - hiR l → stTo l key m = ([], -1)
  | 0, _ => rfl
  | m + 1, h => by
    have ih := stTo_high l key m (by omega)
    have h0 : rowL l (11 - m) = [] := hiR_none l _ (by omega)
    show ((stTo l key m).1 ++ _, _) = _
    rw [ih, h0]
    rfl
theorem btw_iff (k a key : Int) : btwB k (a + 1) (key - 1) = decide (a < k ∧ k < key) := by
  unfold btwB
  congr 1
  exact propext ⟨fun h => by omega, fun h => by omega⟩
def RetSt (p : PL) (w : World) (e : Ending) (w' : World) : Prop := ∃ A c, e = .returned (.slice A p.length c) ∧ PS w' A p.length c p ∧ Below w.heap.size w w'
theorem own_ps2 {w : World} {base t : Nat} {v : Value} {p : PL} (h : w.ownsRow base t 2 v p.length (flat p)) : ∃ A c, v = .slice A p.length c ∧ PS w A p.length c p := by
  rcases h.2 with ⟨rfl, h0⟩ | ⟨g, cap, cur, rfl, _⟩
  · have hp : p = [] := List.eq_nil_of_length_eq_zero h0
    subst hp
    exact ⟨none, 0, rfl, ⟨rfl, Rd.none_⟩⟩
  · exact ⟨_, _, rfl, own_ps h⟩

set_option maxRecDepth 100000 in
set_option maxHeartbeats 2000000 in
theorem Stops_any (A : Option Addr) (n c : Nat) (l : List Int) (key : Int) (w : World) (h : IS w A n c l) (hR : Rise l) (hk : kyB key = true) :
    Calls Tryz.prog 110 #[.slice A n c, I key] w (RetSt (stops l key) w) := by
  have hn : n ≤ 200 := by rw [← h.len]; exact hR.len
  have HC := Lib.hid (RowsOf_any A n c l w h (by omega))
  have HR := Lib.hid hR
  have hkb : 0 ≤ key ∧ key ≤ 1000000 := by simpa [kyB] using hk
  obtain ⟨hk0, hk1⟩ := hkb
  clear h hk
  obtain ⟨i0, hi, hz0, hz1, hz2⟩ := info_parts stop_info
  have HI := Lib.hid hi
  have HZ0 := Lib.hid hz0
  have HZ1 := Lib.hid hz1
  have HZ2 := Lib.hid hz2
  clear hi hz0 hz1 hz2
  go_enter Tryz.func110, Tryz.ntmps110
  go_wp2_with fail
  refine HC.out.mono ?_
  rintro e w1 ⟨A1, m1, c1, rfl, hri, hb1⟩
  have hm12 := (show m1 ≤ 12 by rw [← hri.len, rowsL_len]; exact hiR_le l)
  have HM : Hid (m1 = hiR l) := by show m1 = hiR l; rw [← hri.len, rowsL_len]
  have HRI := Lib.hid hri
  have HB1 := Lib.hid hb1
  clear hri hb1 HC
  go_wp2
  go_loopw [5, 6, 8] (fun v a r wr => ∃ m : Nat, 12 - m1 ≤ m ∧ m ≤ 12 ∧ r = .int .i64 (11 - (m : Int)) ∧ a = .int .i64 (stTo l key m).2 ∧ wr.ownsRow w1.heap.size 173 2 v (stTo l key m).1.length (flat (stTo l key m).1) ∧ Below w1.heap.size w1 wr) (fun _ _ r _ => (intOf r + 1).toNat)
  case atStart =>
    refine ⟨12 - m1, Nat.le_refl _, by omega, by congr 1; omega, ?_, ?_, Below.refl _ _⟩
    · rw [stTo_high l key (12 - m1) (by rw [HM.out]; exact Nat.le_refl _)]
    · rw [stTo_high l key (12 - m1) (by rw [HM.out]; exact Nat.le_refl _)]
      exact World.ownsRow_nil _ _ _ _
  case round =>
    obtain ⟨m, hml, hm, rfl, rfl, hown, hnx⟩ := hrel
    by_cases hlt : m < 12
    · obtain ⟨r, hr⟩ : ∃ r : Nat, 11 - m = r := ⟨_, rfl⟩
      have hri : (11 : Int) - (m : Int) = (r : Int) := by omega
      have hrm : r < m1 := by omega
      obtain ⟨b, off, rfl, hbl, hcs⟩ := HRI.out.at_ (by omega)
      obtain ⟨A', n', c', hcell0, his0⟩ := hcs r hrm
      have hcell : wr.cell? ⟨b, off + r, none⟩ = some (.slice A' n' c') := (hnx.cell (by exact hbl)).trans hcell0
      rw [rowsL_at l r (by have := HM.out; omega), Option.getD_some] at his0
      obtain ⟨L, hL⟩ : ∃ L, rowL l r = L := ⟨_, rfl⟩
      rw [hL] at his0
      have hpw : L.Pairwise (· < ·) := by rw [← hL]; exact rowL_pw HR.out.pw r
      have hn' : n' ≤ 200 := by rw [← his0.len, ← hL]; have := rowL_len l r; have := HR.out.len; omega
      have hpin := stTo_pin HR.out key m hm
      have HBK : Hid (∀ k ∈ L, 0 ≤ k ∧ k ≤ 1000000) := fun k hk => by
        rw [← hL] at hk
        unfold rowL at hk
        exact HR.out.bd k (List.mem_filter.1 hk).1
      obtain ⟨a, ha⟩ : ∃ a, (stTo l key m).2 = a := ⟨_, rfl⟩
      obtain ⟨p, hp⟩ : ∃ p, (stTo l key m).1 = p := ⟨_, rfl⟩
      have hpl : p.length ≤ 2400 := by
        rw [← hp]
        have h1 := stTo_len l key m
        have h2 := HR.out.len
        have h3 : m * l.length ≤ 12 * 200 := Nat.mul_le_mul hm h2
        omega
      have hal : -1 ≤ a := by rw [← ha]; exact hpin.low
      have hah : a ≤ 1000000 := by
        rw [← ha]
        rcases hpin.last with ⟨_, h1⟩ | ⟨q, r', h1⟩
        · omega
        · have := hpin.each (r', (stTo l key m).2) (by rw [h1]; simp)
          exact (HR.out.bd _ this.2.1).2
      have hst : stTo l key (m + 1) = (p ++ (pas L a key).map (fun k => ((r : Int), k)), lastD (pas L a key) a) := by
        show (_, _) = _
        rw [hr, ha, hp, hL, hri]
      have HST := Lib.hid hst
      have HIS := Lib.hid his0
      have HPW := Lib.hid hpw
      rw [ha]
      rw [hp] at hown
      rw [hri]
      have HOWN := Lib.hid hown
      have HNX := Lib.hid hnx
      have HRI2 := Lib.hid hri
      have HLL := Lib.hid his0.len
      clear hst his0 hpw hown hnx ha hp hL hr hri hcs hcell0 hpin
      go_wp2
      go_loopw [5, 6, 25] (fun v z j wi => ∃ k : Nat, k ≤ n' ∧ j = .int .i64 k ∧ z = .int .i64 (lastD (pas (L.take k) a key) a) ∧ wi.ownsRow w1.heap.size 173 2 v (p ++ (pas (L.take k) a key).map (fun x => ((r : Int), x))).length (flat (p ++ (pas (L.take k) a key).map (fun x => ((r : Int), x)))) ∧ Below w1.heap.size w1 wi) (fun _ _ j _ => n' - (intOf j).toNat)
      case atStart => exact ⟨0, Nat.zero_le _, rfl, rfl, by simpa [pas] using HOWN.out, HNX.out⟩
      case round =>
        obtain ⟨k, hk, rfl, rfl, hown, hni⟩ := hrel
        obtain ⟨z, hz⟩ : ∃ z, lastD (pas (L.take k) a key) a = z := ⟨_, rfl⟩
        rw [hz]
        obtain ⟨ps, hps⟩ : ∃ ps, p ++ (pas (L.take k) a key).map (fun x => ((r : Int), x)) = ps := ⟨_, rfl⟩
        rw [hps] at hown
        by_cases hkn : k < n'
        · have hkl : k < L.length := by rw [HLL.out]; exact hkn
          obtain ⟨b2, off2, rfl, hbw, hc⟩ := HIS.out.cell_at hkn
          obtain ⟨x, hx⟩ : ∃ x, L[k] = x := ⟨_, rfl⟩
          rw [hx] at hc
          have hc0 : wr.cell? ⟨b2, off2 + k, none⟩ = some (I x) := (hni.cell (by exact hbw)).trans hc
          have hgt := pas_gt HPW.out hkl a key
          rw [hx, hz] at hgt
          have hsn := pas_snoc L k hkl a key
          rw [hx] at hsn
          have hxb := HBK.out x (by rw [← hx]; exact List.getElem_mem hkl)
          have hzl : -1 ≤ z := by have := lastD_ge (L.take k) a key; rw [hz] at this; omega
          have hzh : z ≤ 1000000 := by
            rcases lastD_mem (pas (L.take k) a key) a with h1 | h1
            · rw [hz] at h1; omega
            · rw [hz] at h1
              exact (HBK.out z (List.mem_of_mem_take (pas_mem.1 h1).1)).2
          have hpsl : ps.length ≤ 10000 := by
            rw [← hps, List.length_append, List.length_map]
            have := pas_len (L.take k) a key
            rw [List.length_take] at this
            omega
          obtain ⟨hx0, hx1⟩ := hxb
          have HOWN2 := Lib.hid hown
          have HNI := Lib.hid hni
          have hzi := hni.size
          have HPS := Lib.hid hps
          have HZ := Lib.hid hz
          have HBT := Lib.hid (btw_iff x z key)
          by_cases hcond : a < x ∧ x < key
          · rw [if_pos hcond] at hsn
            have hzx : z < x ∧ x < key := ⟨hgt.2 hcond.1, hcond.2⟩
            have HBt : Hid (btwB x (z + 1) (key - 1) = true) := by show _ = _; rw [HBT.out]; simpa using hzx
            have HSN := Lib.hid hsn
            clear hc hx hgt hsn hown hni hps hz hcond
            go_wp2_with (first
              | (go_at_call 166; refine (Between_t _ _ _ _ HBt.out).mono ?_; rintro e w' ⟨rfl, rfl⟩)
              | (at_builtin
                 refine wpList_append_own_at _ rfl (.tmp 35) (.tmp 39) 170 rfl w1.heap.size 173 i0 _ 2 16 Tryz.underlying170 HI.out HZ0.out HZ1.out HZ2.out rfl (by omega) _ ps.length (flat ps) rfl (own_below HOWN2.out ((Below.refl _ _).alloc (Nat.le_refl _) _)) ⟨_, 0, none⟩ 1 1 [I r, I x] rfl rfl (two_new _ r x _) (two_one r x) (by unfold maxLen; omega) (by omega) (by simp; omega) ?_
                 intro v2 w2 hown2 hgrow2 _ hat2)
              | fail)
            go_roundw
            case rel =>
              have hps2 : p ++ (pas (L.take (k + 1)) a key).map (fun x => ((r : Int), x)) = ps ++ [((r : Int), x)] := by
                rw [HSN.out, List.map_append, ← List.append_assoc, HPS.out]
                rfl
              refine ⟨k + 1, by omega, by go_num, by rw [HSN.out, lastD_snoc], ?_, ?_⟩
              · rw [hps2, flat_append]
                simpa [flat] using hown2
              · exact Below.grown (HNI.out.alloc hzi _) hgrow2 (by simp; omega) (own_ge1 HOWN2.out)
            case measure => simp [intOf]; omega
          · rw [if_neg hcond] at hsn
            have HBt : Hid (btwB x (z + 1) (key - 1) = false) := by
              show _ = _
              rw [HBT.out]
              simp only [decide_eq_false_iff_not]
              rintro ⟨h1, h2⟩
              exact hcond ⟨hgt.1 h1, h2⟩
            have HSN := Lib.hid hsn
            clear hc hx hgt hsn hown hni hps hz hcond
            go_wp2_with (first
              | (go_at_call 166; refine (Between_f _ _ _ _ HBt.out).mono ?_; rintro e w' ⟨rfl, rfl⟩)
              | fail)
            go_roundw
            case rel => exact ⟨k + 1, by omega, by go_num, by rw [HSN.out, HZ.out], by rw [HSN.out, HPS.out]; exact HOWN2.out, HNI.out⟩
            case measure => simp [intOf]; omega
        · have hfin : stTo l key (m + 1) = (ps, z) := by
            rw [← hz, ← hps, List.take_of_length_le (by rw [HLL.out]; omega)]
            exact HST.out
          have HF := Lib.hid hfin
          have HOWN2 := Lib.hid hown
          have HNI := Lib.hid hni
          clear hfin hz hown hni hps
          go_wp2
          go_roundw
          case rel => exact ⟨m + 1, by omega, by omega, by have := HRI2.out; congr 1; omega, by rw [HF.out], by rw [HF.out]; exact HOWN2.out, HNI.out⟩
          case measure => first | (simp [intOf]; done) | (simp [intOf]; omega)
    · obtain rfl : m = 12 := by omega
      obtain ⟨A', c', rfl, hps⟩ := own_ps2 hown
      have HPS := Lib.hid hps
      have HBL := Lib.hid (kon3 HB1.out hnx)
      clear hps hown hnx
      go_wp2
      go_ret
      exact ⟨A', c', rfl, HPS.out, HBL.out⟩
end Go.Proofs.YtpnjnedfcdppaaaGreatDoor
