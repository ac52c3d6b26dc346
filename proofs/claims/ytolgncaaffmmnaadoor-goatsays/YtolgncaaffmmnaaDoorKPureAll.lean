/-
  Joined texts: YtolgncaaffmmnaaDoorOLop, YtolgncaaffmmnaaDoorMapK, YtolgncaaffmmnaaDoorKPure.
-/
import Derived.Test.YtolgncaaffmmnaaDoorOLeaf
import Derived.Test.YtolgncaaffmmnaaDoorSPar
import Derived.BigRegion
import Derived.BigQuiet
import Derived.Deep.QuietTactic
import Derived.Test.YtolgncaaffmmnaaDoorAppPAll
import Derived.Test.YtolgncaaffmmnaaDoorChecked
import Derived.Deep.AppendLies
import Derived.Test.YtolgncaaffmmnaaDoorEqAll
/-
  package goat: lopsided.
-/
namespace Go.Proofs.YtolgncaaffmmnaaDoor
open Go.RowKit

/-- what lopsided tells of a row in block g -/
def lopV (g c : Nat) : Option (Nat × Nat × Int) → Value
  | none => .tuple #[.slice none 0 0, I 0]
  | some (f, t, d) => .tuple #[.slice (some ⟨g, f * 2, none⟩) (t - f) (c - f), I d]

set_option maxRecDepth 100000 in
set_option maxHeartbeats 4000000 in
theorem olop_any (g n c p m0 : Nat) (l : PL) (R : Option (Nat × Nat × Int)) (w : World) (h : PS w (some ⟨g, 0, none⟩) n c l) (hT : IsTree l) (hp : p < n) (hC : Clm l m0 (par l p) R) :
    Calls Tryd.prog 51 #[.slice (some ⟨g, 0, none⟩) n c, I p] w fun e w' => e = .returned (lopV g c R) ∧ Below w.heap.size w w' := by
  have hn : n ≤ 200 := by have := hT.1; rw [h.len] at this; exact this
  have HP := Lib.hid (Parents_ok _ n c l w h hT)
  have H := Lib.hid h
  have HL := Lib.hid h.len
  have HC := Lib.hid hC
  have hcap := h.rd.1
  clear h hT hC
  go_enter Tryd.func51, Tryd.ntmps51
  go_wp2_with fail
  refine HP.out.mono ?_
  rintro e w1 ⟨A1, n1, c1, rfl, his, hb1, _⟩
  obtain rfl : n1 = n := by rw [← his.len, parL_length]; exact HL.out
  obtain ⟨b, off, rfl, hb, hci⟩ := his.at_ (by omega)
  have HCI : Hid (∀ i, i < n1 → w1.cell? ⟨b, off + i, none⟩ = some (I (par l i))) := fun i hi => by
    have h1 := hci i hi
    have h2 := parL_at l i (by rw [HL.out]; exact hi)
    rw [List.getElem?_eq_getElem (by rw [parL_length, HL.out]; exact hi)] at h2
    rw [h1, Option.some.inj h2]
  have hc0 := HCI.out p hp
  have HB1 := Lib.hid hb1
  clear hci his hb1 HP
  go_wp2
  go_loopg [8] m0 (fun m x wr => ∃ at_ : Int, x = I at_ ∧ Clm l m at_ R ∧ Below w1.heap.size w1 wr)
  case atStart => exact ⟨_, rfl, HC.out, Below.refl _ _⟩
  case round =>
    obtain ⟨at_, rfl, hclm, hnx⟩ := hrel
    have HNX := Lib.hid hnx
    have HBX := Lib.hid (below_next HB1.out hnx)
    have hsz := hnx.size
    clear hnx
    cases hclm with
    | out =>
      go_wp2
      go_ret2
      exact ⟨rfl, HBX.out⟩
    | @hit m' i hi hlean =>
      have hi' : i < n1 := by rw [← HL.out]; exact hi
      have HPO := Lib.hid (opartOf_any _ n1 c i l wr (H.out.below HBX.out) (by omega) hi')
      have hfr := frR_le l i
      have hto := toR_bd l i hi
      rw [HL.out] at hto
      unfold leansAt at hlean
      obtain ⟨b', off', e', hbg, hcs⟩ := (H.out.below HBX.out).dat (by omega)
      cases e'
      have hcd : ∀ w2, Below wr.heap.size wr w2 → w2.cell? ⟨g, i * 2 + 1, none⟩ = some (I (dp l i)) := fun w2 hb2 => by
        have h1 := (hcs i hi').2
        rw [Nat.zero_add] at h1
        exact (hb2.cell (by exact hbg)).trans h1
      have HCD := Lib.hid hcd
      clear hcs hcd hi
      obtain ⟨f, hf⟩ : ∃ f, frR l i = f := ⟨_, rfl⟩
      obtain ⟨t, ht⟩ : ∃ t, toR l i = t := ⟨_, rfl⟩
      obtain ⟨dd, hdd⟩ : ∃ dd, dp l i = dd := ⟨_, rfl⟩
      have HV := Lib.hid (show lopV g c (some (frR l i, toR l i, dp l i)) = lopV g c (some (f, t, dd)) by rw [hf, ht, hdd])
      rw [hf, ht] at hlean HPO
      rw [hf] at hfr
      rw [ht] at hto
      rw [hdd] at HCD
      clear hf ht hdd
      go_wp2_with fail
      refine HPO.out.mono ?_
      rintro e w2 ⟨rfl, hb2⟩
      have HB2 := Lib.hid (below_next HBX.out hb2)
      have hcd := HCD.out w2 hb2
      have hfc : ¬ (c = f) := by omega
      have hft : f ≤ t := by omega
      have htc : t ≤ c := by omega
      obtain ⟨s, hs⟩ : ∃ s : Int, (if (i : Int) - (f : Int) < (t : Int) - (i : Int) - 1 then (t : Int) - (i : Int) - 1 else (i : Int) - (f : Int)) = s := ⟨_, rfl⟩
      have hl1 : 2 * ((t : Int) - (f : Int)) < 3 * s ∧ 0 ≤ s ∧ s ≤ 200 := by rw [← hs]; split <;> omega
      obtain ⟨hl1, hl2, hl3⟩ := hl1
      clear hb2 HPO HCD hlean
      go_wp2
      go_quiet (fail)
      go_wp2
      go_ret2
      exact ⟨by rw [HV.out]; rfl, below_drewN HB2.out _⟩
    | @up m' i _ hi hlean hclm' =>
      have hi' : i < n1 := by rw [← HL.out]; exact hi
      have HPO := Lib.hid (opartOf_any _ n1 c i l wr (H.out.below HBX.out) (by omega) hi')
      have hfr := frR_le l i
      have hto := toR_bd l i hi
      rw [HL.out] at hto
      unfold leansAt at hlean
      have hcp : wr.cell? ⟨b, off + i, none⟩ = some (I (par l i)) := (HNX.out.cell (by exact hb)).trans (HCI.out i hi')
      have hbw : b < wr.heap.size := by omega
      have HCL := Lib.hid hclm'
      clear hclm' hi
      generalize frR l i = f at *
      generalize toR l i = t at *
      generalize par l i = pp at *
      go_wp2_with fail
      refine HPO.out.mono ?_
      rintro e w2 ⟨rfl, hb2⟩
      have HB2 := Lib.hid (below_next HNX.out hb2)
      have hcp2 : w2.cell? ⟨b, off + i, none⟩ = some (I pp) := (hb2.cell (by exact hbw)).trans hcp
      obtain ⟨s, hs⟩ : ∃ s : Int, (if (i : Int) - (f : Int) < (t : Int) - (i : Int) - 1 then (t : Int) - (i : Int) - 1 else (i : Int) - (f : Int)) = s := ⟨_, rfl⟩
      have hl1 : ¬ 2 * ((t : Int) - (f : Int)) < 3 * s ∧ 0 ≤ s ∧ s ≤ 200 := by rw [← hs]; split <;> omega
      obtain ⟨hl1, hl2, hl3⟩ := hl1
      have hft : f ≤ t := by omega
      clear hb2 HPO hlean hcp
      go_wp2
      all_goals go_roundg m'
      all_goals first
        | omega
        | exact ⟨_, rfl, HCL.out, HB2.out⟩

end Go.Proofs.YtolgncaaffmmnaaDoor

/-
  hedgref.MapKeys.
-/
namespace Go.Proofs.YtolgncaaffmmnaaDoor
open Go.RowKit

def kys (l : PL) : List Int := l.map Prod.fst
/-- numbers in new memory -/
def RetI (L : List Int) (w : World) (e : Ending) (w' : World) : Prop := ∃ A c, e = .returned (.slice A L.length c) ∧ IS w' A L.length c L ∧ Below w.heap.size w w'
theorem kys_take (l : PL) (k : Nat) (h : k < l.length) : kys (l.take (k + 1)) = kys (l.take k) ++ [l[k].1] := by
  unfold kys
  rw [List.take_succ_eq_append_getElem h, List.map_append]
  rfl

theorem IS.cell_at {w : World} {A : Option Addr} {n c : Nat} {l : List Int} (h : IS w A n c l) {k : Nat} (hk : k < n) : ∃ b off, A = some ⟨b, off, none⟩ ∧ b < w.heap.size ∧ w.cell? ⟨b, off + k, none⟩ = some (I (l[k]'(by rw [h.len]; exact hk))) := by
  obtain ⟨b, off, e, hb, hc⟩ := h.at_ (by omega)
  exact ⟨b, off, e, hb, hc k hk⟩
/-- the first k of them -/
def kysTo (l : PL) (k : Nat) : List Int := (kys l).take k ++ List.replicate (l.length - k) 0
theorem kys_len (l : PL) : (kys l).length = l.length := by simp [kys]
theorem kysTo_len (l : PL) (k : Nat) (h : k ≤ l.length) : (kysTo l k).length = l.length := by simp [kysTo, kys_len]; omega
theorem kysTo_set (l : PL) (k : Nat) (h : k < l.length) : (kysTo l k).set k l[k].1 = kysTo l (k + 1) := by
  unfold kysTo
  have h1 : ((kys l).take k).length = k := by simp [kys_len]; omega
  rw [List.set_append_right _ _ (by omega), h1, Nat.sub_self, List.take_succ_eq_append_getElem (by rw [kys_len]; exact h), show l.length - k = l.length - (k + 1) + 1 by omega, List.replicate_succ]
  simp [kys]
theorem kysTo_all (l : PL) : kysTo l l.length = kys l := by
  unfold kysTo
  rw [List.take_of_length_le (by rw [kys_len]; exact Nat.le_refl _)]
  simp

set_option maxRecDepth 100000 in
set_option maxHeartbeats 1000000 in
theorem MapKeys_any (A : Option Addr) (n c : Nat) (l : PL) (w : World) (h : PS w A n c l) (hn : n ≤ 1000) :
    Calls Tryd.prog 26 #[.slice A n c] w (RetI (kys l) w) := by
  have H := Lib.hid h
  have HL := Lib.hid h.len
  clear h
  obtain ⟨i0, hi, hz0, hz1, hz2⟩ := info_parts int_info
  have HI := Lib.hid hi
  have HZ0 := Lib.hid hz0
  have HZ1 := Lib.hid hz1
  have HZ2 := Lib.hid hz2
  clear hi hz0 hz1 hz2
  go_enter Tryd.func26, Tryd.ntmps26
  go_wp2
  go_loopw [3, 8] (fun v i wr => ∃ k : Nat, k ≤ n ∧ i = .int .i64 k ∧ OwnI wr w.heap.size v (kys (l.take k)) ∧ Below w.heap.size w wr) (fun _ i _ => n - (intOf i).toNat)
  case atStart => exact ⟨0, Nat.zero_le _, rfl, World.ownsRow_nil _ _ _ _, Below.refl _ _⟩
  case round =>
    obtain ⟨k, hk, rfl, hown, hnx⟩ := hrel
    by_cases hlt : k < n
    · have hkl : k < l.length := by rw [HL.out]; exact hlt
      obtain ⟨b, off, rfl, hbw, hcs⟩ := H.out.at_ (by omega)
      obtain ⟨x, hx⟩ : ∃ x, l[k].1 = x := ⟨_, rfl⟩
      obtain ⟨y, hy⟩ : ∃ y, l[k].2 = y := ⟨_, rfl⟩
      have hc0 : wr.cell? ⟨b, off + k * 2, none⟩ = some (I x) := by rw [← hx]; exact (hnx.cell (by exact hbw)).trans (hcs k hlt).1
      have hc1 : wr.cell? ⟨b, off + k * 2 + 1, none⟩ = some (I y) := by rw [← hy]; exact (hnx.cell (by exact hbw)).trans (hcs k hlt).2
      have HK := Lib.hid (kys_take l k hkl)
      rw [hx] at HK
      obtain ⟨xs, hxs⟩ : ∃ xs, kys (l.take k) = xs := ⟨_, rfl⟩
      have hxl : xs.length ≤ 1000 := by rw [← hxs]; simp [kys]; omega
      rw [hxs] at hown HK
      have HOWN := Lib.hid hown
      have HNX := Lib.hid hnx
      have hz := hnx.size
      clear hcs hx hy hown hnx hxs
      go_wp2_with (first
        | (at_builtin
           refine wpList_append_own_at _ rfl (.tmp 12) (.tmp 15) 22 rfl w.heap.size 3 i0 _ 1 8 Tryd.underlying22 HI.out HZ0.out HZ1.out HZ2.out rfl (by omega) _ xs.length (xs.map I) rfl (own_below HOWN.out (((Below.refl _ _).alloc (Nat.le_refl _) _).alloc (by simp) _)) ⟨wr.heap.size + 1, 0, none⟩ 1 1 [I x] rfl rfl (by have := cell_one_new (wr.alloc (.cells #[I x, I y] 87)) (I x) 3; simpa using this) (one_I x) (by unfold maxLen; omega) (by omega) (by simp; omega) ?_
           intro v2 w2 hown2 hgrow2 _ hat2)
        | fail)
      go_roundw
      case rel =>
        refine ⟨k + 1, by omega, by go_num, ?_, ?_⟩
        · rw [HK.out]
          unfold OwnI
          simpa using hown2
        · exact Below.grown ((HNX.out.alloc hz _).alloc (by simp; omega) _) hgrow2 (by simp; omega) (own_ge1 HOWN.out)
      case measure => simp [intOf]; omega
    · rw [List.take_of_length_le (by rw [HL.out]; omega)] at hown
      obtain ⟨A', c', rfl, his, _⟩ := hown.is_
      have HIS := Lib.hid his
      have HNX := Lib.hid hnx
      clear his hnx hown
      go_wp2
      go_ret
      exact ⟨A', c', rfl, HIS.out, HNX.out⟩

end Go.Proofs.YtolgncaaffmmnaaDoor

/-
  ROWS AND PATHS, AS LISTS. Nothing of the program but a key's height.
-/
namespace Go.Proofs.YtolgncaaffmmnaaDoor

/-- may it be a key? -/
def kyB (k : Int) : Bool := decide (0 ≤ k ∧ k ≤ 1000000)
def okK (l : List Int) (i : Nat) : Prop := kyB (l[i]?.getD 0) = true ∧ (0 < i → l[i - 1]?.getD 0 < l[i]?.getD 0)
def okKs (l : List Int) (n : Nat) : Prop := ∀ i, i < n → okK l i
theorem okKs_succ {l : List Int} {n : Nat} (h : okKs l n) (h1 : okK l n) : okKs l (n + 1) := fun i hi => by
  rcases Nat.lt_or_ge i n with h2 | h2
  · exact h i h2
  · obtain rfl : i = n := by omega
    exact h1
open Classical in
/-- what Rows says of a list -/
noncomputable def chkK (l : List Int) : Int := if 200 < l.length then 2 else if okKs l l.length then 0 else 3
/-- keys that rise -/
structure Rise (l : List Int) : Prop where
  len : l.length ≤ 200
  pw : l.Pairwise (· < ·)
  bd : ∀ k ∈ l, 0 ≤ k ∧ k ≤ 1000000
theorem okKs_pw (l : List Int) (h : okKs l l.length) : l.Pairwise (· < ·) := by
  rw [List.pairwise_iff_getElem]
  have key : ∀ d i (hi : i + d + 1 < l.length), l[i]'(by omega) < l[i + d + 1] := by
    intro d
    induction d with
    | zero =>
      intro i hi
      have h1 := (h (i + 1) (by omega)).2 (by omega)
      simpa [List.getElem?_eq_getElem (show i < l.length by omega), List.getElem?_eq_getElem (show i + 1 < l.length by omega)] using h1
    | succ d ih =>
      intro i hi
      have h1 := ih i (by omega)
      have h2 := (h (i + (d + 1) + 1) (by omega)).2 (by omega)
      simp only [show i + (d + 1) + 1 - 1 = i + d + 1 by omega, List.getElem?_eq_getElem (show i + d + 1 < l.length by omega), List.getElem?_eq_getElem hi, Option.getD_some] at h2
      omega
  intro i j hi hj hij
  have := key (j - i - 1) i (by omega)
  simpa only [show i + (j - i - 1) + 1 = j by omega] using this
theorem okKs_iff (l : List Int) : okKs l l.length ↔ l.Pairwise (· < ·) ∧ ∀ k ∈ l, 0 ≤ k ∧ k ≤ 1000000 := by
  constructor
  · intro h
    refine ⟨okKs_pw l h, fun k hk => ?_⟩
    obtain ⟨i, hi, rfl⟩ := List.mem_iff_getElem.1 hk
    have := (h i hi).1
    simpa [kyB, List.getElem?_eq_getElem hi] using this
  · rintro ⟨h1, h2⟩ i hi
    refine ⟨?_, fun h0 => ?_⟩
    · have := h2 l[i] (List.getElem_mem hi)
      simpa [kyB, List.getElem?_eq_getElem hi] using this
    · have := List.pairwise_iff_getElem.1 h1 (i - 1) i (by omega) hi (by omega)
      simpa [List.getElem?_eq_getElem hi, List.getElem?_eq_getElem (show i - 1 < l.length by omega)] using this
theorem chkK_zero {l : List Int} : chkK l = 0 ↔ Rise l := by
  unfold chkK
  constructor
  · intro h
    split at h
    · cases h
    · split at h
      · rename_i h1 h2
        obtain ⟨h3, h4⟩ := (okKs_iff l).1 h2
        exact ⟨by omega, h3, h4⟩
      · cases h
  · rintro ⟨h1, h2, h3⟩
    rw [if_neg (by omega), if_pos ((okKs_iff l).2 ⟨h2, h3⟩)]

/-- the row r -/
def rowL (l : List Int) (r : Nat) : List Int := l.filter fun k => decide (r < ht k)
theorem rowL_zero (l : List Int) : rowL l 0 = l := List.filter_eq_self.2 fun k _ => by have := ht_pos k; simp; omega
theorem rowL_high (l : List Int) (r : Nat) (h : 12 ≤ r) : rowL l r = [] := List.filter_eq_nil_iff.2 fun k _ => by have := ht_le k; simp; omega
theorem rowL_succ (l : List Int) (r : Nat) : rowL l (r + 1) = (rowL l r).filter fun k => decide (r + 1 < ht k) := by
  unfold rowL
  rw [List.filter_filter]
  congr 1
  funext k
  by_cases h : r + 1 < ht k
  · simp [h]; omega
  · simp [h]
theorem rowL_sub (l : List Int) (r : Nat) : (rowL l (r + 1)).Sublist (rowL l r) := by rw [rowL_succ]; exact List.filter_sublist
theorem rowL_mono (l : List Int) {r s : Nat} (h : r ≤ s) (hs : rowL l s ≠ []) : rowL l r ≠ [] := by
  obtain ⟨k, hk⟩ := List.exists_mem_of_ne_nil _ hs
  unfold rowL at hk
  rw [List.mem_filter] at hk
  refine List.ne_nil_of_mem (a := k) ?_
  unfold rowL
  rw [List.mem_filter]
  exact ⟨hk.1, by have := hk.2; simp at *; omega⟩
theorem rowL_append (l : List Int) (k : Int) (r : Nat) : rowL (l ++ [k]) r = if r < ht k then rowL l r ++ [k] else rowL l r := by
  unfold rowL
  rw [List.filter_append]
  by_cases h : r < ht k <;> simp [h]
theorem rowL_pw {l : List Int} (h : l.Pairwise (· < ·)) (r : Nat) : (rowL l r).Pairwise (· < ·) := h.sublist List.filter_sublist
theorem rowL_len (l : List Int) (r : Nat) : (rowL l r).length ≤ l.length := List.length_filter_le _ _

/-- how many rows have keys -/
def hiTo (l : List Int) : Nat → Nat
  | 0 => 0
  | n + 1 => if rowL l n = [] then hiTo l n else n + 1
def hiR (l : List Int) : Nat := hiTo l 12
theorem hiTo_le (l : List Int) (n : Nat) : hiTo l n ≤ n := by
  induction n with
  | zero => exact Nat.le_refl _
  | succ n ih => unfold hiTo; split <;> omega
theorem hiTo_some (l : List Int) (n : Nat) : ∀ r, r < hiTo l n → rowL l r ≠ [] := by
  induction n with
  | zero => intro r h; simp [hiTo] at h
  | succ n ih =>
    intro r h
    unfold hiTo at h
    split at h
    · exact ih r h
    · rename_i h1
      exact rowL_mono l (by omega) h1
theorem hiTo_none (l : List Int) (n : Nat) : ∀ r, hiTo l n ≤ r → r < n → rowL l r = [] := by
  induction n with
  | zero => intro r _ h; omega
  | succ n ih =>
    intro r h h2
    unfold hiTo at h
    split at h
    · rename_i h1
      rcases Nat.lt_or_ge r n with h3 | h3
      · exact ih r h h3
      · obtain rfl : r = n := by omega
        exact h1
    · omega
theorem hiR_le (l : List Int) : hiR l ≤ 12 := hiTo_le l 12
theorem hiR_some (l : List Int) (r : Nat) (h : r < hiR l) : rowL l r ≠ [] := hiTo_some l 12 r h
theorem hiR_none (l : List Int) (r : Nat) (h : hiR l ≤ r) : rowL l r = [] := by
  rcases Nat.lt_or_ge r 12 with h1 | h1
  · exact hiTo_none l 12 r h h1
  · exact rowL_high l r h1
theorem hiR_pos (l : List Int) : 0 < hiR l ↔ l ≠ [] := by
  constructor
  · intro h
    have := hiR_some l 0 h
    rwa [rowL_zero] at this
  · intro h
    rcases Nat.eq_zero_or_pos (hiR l) with h0 | h0
    · have := hiR_none l 0 (by omega)
      rw [rowL_zero] at this
      exact absurd this h
    · exact h0
/-- all rows there may be; those that have keys -/
def towL (l : List Int) : List (List Int) := (List.range 12).map (rowL l)
def rowsL (l : List Int) : List (List Int) := (List.range (hiR l)).map (rowL l)
theorem towL_len (l : List Int) : (towL l).length = 12 := by simp [towL]
theorem rowsL_len (l : List Int) : (rowsL l).length = hiR l := by simp [rowsL]
theorem towL_at (l : List Int) (i : Nat) (h : i < 12) : (towL l)[i]? = some (rowL l i) := by simp [towL, h]
theorem rowsL_at (l : List Int) (i : Nat) (h : i < hiR l) : (rowsL l)[i]? = some (rowL l i) := by simp [rowsL, h]
theorem rowsL_take (l : List Int) : rowsL l = (towL l).take (hiR l) := by
  unfold rowsL towL
  rw [← List.map_take, List.take_range, Nat.min_eq_left (hiR_le l)]
theorem rowsL_nil : rowsL [] = [] := by
  have : hiR [] = 0 := by
    rcases Nat.eq_zero_or_pos (hiR []) with h | h
    · exact h
    · exact absurd rfl ((hiR_pos []).1 h)
  simp [rowsL, this]

/-- the greedy look for x in what comes -/
def gk (x : List Int) : Nat → List Int → Nat
  | k, [] => k
  | k, y :: t => gk x (if x[k]? = some y then k + 1 else k) t
theorem gk_sub (x : List Int) : ∀ (t : List Int) (k : Nat), k ≤ x.length → (x.drop k).Sublist t → gk x k t = x.length
  | [], k, hk, h => by
    have := List.sublist_nil.1 h
    have : (x.drop k).length = 0 := by rw [this]; rfl
    simp at this
    show k = _
    omega
  | y :: t, k, hk, h => by
    unfold gk
    by_cases he : x[k]? = some y
    · rw [if_pos he]
      obtain ⟨h1, h2⟩ := List.getElem?_eq_some_iff.1 he
      refine gk_sub x t (k + 1) (by omega) ?_
      rw [List.drop_eq_getElem_cons h1, h2] at h
      exact List.cons_sublist_cons.1 h
    · rw [if_neg he]
      refine gk_sub x t k hk ?_
      cases hd : x.drop k with
      | nil => exact List.nil_sublist _
      | cons z d =>
        rw [hd] at h
        have hz : x[k]? = some z := by
          have := congrArg (·[0]?) hd
          simpa [List.getElem?_drop] using this
        rcases List.sublist_cons_iff.1 h with h1 | ⟨r, h1, h2⟩
        · exact h1
        · injection h1 with h3 h4
          exact absurd (by rw [hz, h3]) he
theorem gk_snoc (x : List Int) : ∀ (t : List Int) (k : Nat) (y : Int), gk x k (t ++ [y]) = if x[gk x k t]? = some y then gk x k t + 1 else gk x k t
  | [], k, y => rfl
  | z :: t, k, y => by
    show gk x _ (t ++ [y]) = _
    rw [gk_snoc x t _ y]
    rfl
theorem gk_le (x : List Int) : ∀ (t : List Int) (k : Nat), k ≤ x.length → gk x k t ≤ x.length
  | [], k, h => h
  | y :: t, k, h => by
    unfold gk
    refine gk_le x t _ ?_
    split
    · rename_i h1
      have := (List.getElem?_eq_some_iff.1 h1).1
      omega
    · exact h

end Go.Proofs.YtolgncaaffmmnaaDoor
