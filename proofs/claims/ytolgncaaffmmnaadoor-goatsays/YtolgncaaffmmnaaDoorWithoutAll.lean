/-
  Joined texts: YtolgncaaffmmnaaDoorRef, YtolgncaaffmmnaaDoorWithout.
-/
import Derived.Test.YtolgncaaffmmnaaDoorGMapsAll
import Derived.Deep.AppendLies
/-
  Has, nth, Without.
-/
namespace Go.Proofs.YtolgncaaffmmnaaDoor
open Go.RowKit

def hasV (l : PL) (key : Int) : Int := ((l.find? fun p => p.1 == key).map (·.2)).getD 0
def hasI (l : PL) (key : Int) : Bool := (l.find? fun p => p.1 == key).isSome
def noneTo (l : PL) (key : Int) (k : Nat) : Prop := ∀ i, i < k → ((l[i]?.getD (key + 1, 0)).1 == key) = false
theorem noneTo_find (l : PL) (key : Int) : ∀ k (h : k < l.length), noneTo l key k → (l[k].1 == key) = true → l.find? (fun p => p.1 == key) = some l[k] := by
  induction l with
  | nil => intro k h; simp at h
  | cons p t ih =>
    intro k h hn hk
    cases k with
    | zero => simp only [List.getElem_cons_zero] at hk ⊢; simp [List.find?_cons, hk]
    | succ k =>
      have h0 := hn 0 (by omega)
      simp only [List.getElem?_cons_zero, Option.getD_some] at h0
      simp only [List.find?_cons, h0, List.getElem_cons_succ]
      exact ih k (by simpa using h) (fun i hi => by have := hn (i + 1) (by omega); simpa using this) (by simpa using hk)
theorem noneTo_all (l : PL) (key : Int) (h : noneTo l key l.length) : l.find? (fun p => p.1 == key) = none := by
  rw [List.find?_eq_none]
  intro x hx
  obtain ⟨i, hi, rfl⟩ := List.getElem_of_mem hx
  have := h i hi
  simpa [List.getElem?_eq_getElem hi] using this
theorem noneTo_succ {l : PL} {key : Int} {k : Nat} (hk : k < l.length) (h : noneTo l key k) (h1 : (l[k].1 == key) = false) : noneTo l key (k + 1) := fun i hi => by
  rcases Nat.lt_or_ge i k with h2 | h2
  · exact h i h2
  · obtain rfl : i = k := by omega
    simpa [List.getElem?_eq_getElem hk] using h1

set_option maxHeartbeats 1000000 in
theorem Has_any (A : Option Addr) (n c : Nat) (l : PL) (key : Int) (w : World) (h : PS w A n c l) (hn : n ≤ 1000000) :
    Calls Tryd.prog 53 #[.slice A n c, I key] w fun e w' => e = .returned (.tuple #[I (hasV l key), .bool (hasI l key)]) ∧ Below w.heap.size w w' := by
  have H := Lib.hid h
  have Hlen := Lib.hid h.len
  clear h
  go_enter Tryd.func53, Tryd.ntmps53
  go_wp2
  go_loopw [10] (fun i wr => ∃ k : Nat, k ≤ n ∧ i = .int .i64 k ∧ noneTo l key k ∧ Below w.heap.size w wr) (fun i _ => n - (intOf i).toNat)
  case atStart => exact ⟨0, Nat.zero_le _, rfl, fun i hi => absurd hi (by omega), Below.refl _ _⟩
  case round =>
    obtain ⟨k, hk, rfl, hno, hnx⟩ := hrel
    by_cases hlt : k < n
    · obtain ⟨b, off, rfl, hb, hc⟩ := H.out.at_ (by omega)
      have hkl : k < l.length := by have := Hlen.out; omega
      have hc0 : wr.cell? ⟨b, off + k * 2, none⟩ = some (I l[k].1) := (hnx.cell (by exact hb)).trans (hc k hlt).1
      have hc1 : wr.cell? ⟨b, off + k * 2 + 1, none⟩ = some (I l[k].2) := (hnx.cell (by exact hb)).trans (hc k hlt).2
      have hsz := hnx.size
      clear hc
      cases hkey : (l[k].1 == key) with
      | true =>
        have hf := noneTo_find l key k hkl hno hkey
        have HF : Hid (hasV l key = l[k].2 ∧ hasI l key = true) := by show _ ∧ _; simp [hasV, hasI, hf]
        clear hno hf
        go_wp2
        go_ret2
        refine ⟨?_, hnx.alloc hsz _⟩
        rw [HF.out.1, HF.out.2]
        rfl
      | false =>
        have HO := Lib.hid (noneTo_succ hkl hno hkey)
        clear hno
        go_wp2
        go_roundw
        case rel => exact ⟨k + 1, by omega, by go_num, HO.out, hnx.alloc hsz _⟩
        case measure => simp [intOf]; omega
    · have hf := noneTo_all l key (by rw [Hlen.out, show n = k by omega]; exact hno)
      have HF : Hid (hasV l key = 0 ∧ hasI l key = false) := by show _ ∧ _; simp [hasV, hasI, hf]
      clear hno hf
      go_wp2
      go_ret2
      refine ⟨?_, hnx⟩
      rw [HF.out.1, HF.out.2]
      rfl

def notAt (p : Int) (k : Nat) : Prop := ∀ i : Nat, i < k → (i : Int) ≠ p

set_option maxRecDepth 100000 in
set_option maxHeartbeats 1000000 in
theorem nth_any (A : Option Addr) (n c : Nat) (l : PL) (p : Int) (w : World) (h : PS w A n c l) (hn : n ≤ 1000000) :
    Calls Tryd.prog 56 #[.slice A n c, I p] w fun e w' => e = .returned (anV (pairA l p)) ∧ Below w.heap.size w w' := by
  have H := Lib.hid h
  have Hlen := Lib.hid h.len
  clear h
  have hb0 : Below w.heap.size w (w.alloc ansO) := (Below.refl _ _).alloc (Nat.le_refl _) _
  have HAB0 := Lib.hid (AB.new w)
  have HB0 := Lib.hid hb0
  clear hb0
  go_enter Tryd.func56, Tryd.ntmps56
  go_wp2
  go_loopw [9] (fun i wr => ∃ k : Nat, k ≤ n ∧ i = .int .i64 k ∧ notAt p k ∧ AB wr w.heap.size ∧ Below w.heap.size w wr) (fun i _ => n - (intOf i).toNat)
  case atStart => exact ⟨0, Nat.zero_le _, rfl, fun i hi => absurd hi (by omega), HAB0.out, HB0.out⟩
  case round =>
    obtain ⟨k, hk, rfl, hno, hab, hnx⟩ := hrel
    have hz : w.heap.size < wr.heap.size := by
      rcases Nat.lt_or_ge w.heap.size wr.heap.size with h1 | h1
      · exact h1
      · unfold AB at hab; rw [Array.getElem?_eq_none h1] at hab; cases hab
    have hab2 : ∀ o : Obj, AB (wr.alloc o) w.heap.size := fun o => hab.below (B := wr.heap.size) ((Below.refl _ _).alloc (Nat.le_refl _) _) hz
    by_cases hlt : k < n
    · obtain ⟨b, off, rfl, hb, hc⟩ := H.out.at_ (by omega)
      have hkl : k < l.length := by have := Hlen.out; omega
      have hc0 : wr.cell? ⟨b, off + k * 2, none⟩ = some (I l[k].1) := (hnx.cell (by exact hb)).trans (hc k hlt).1
      have hc1 : wr.cell? ⟨b, off + k * 2 + 1, none⟩ = some (I l[k].2) := (hnx.cell (by exact hb)).trans (hc k hlt).2
      have hsz := hnx.size
      clear hc
      by_cases hkp : (k : Int) = p
      · have HF : Hid (pairA l p = ⟨0, l[k].1, l[k].2, true⟩) := by rw [← hkp]; exact pairA_in l k hkl
        have hkp' : ((k : Int) == p) = true := by simpa using hkp
        obtain ⟨⟨a0, a1, a2, a3⟩, f0, f1, f2, f3⟩ := hab.facts
        have hR := ((AA.st4 (a := an0) hab 0 l[k].1 l[k].2 true).alloc (.cells #[I l[k].1, I l[k].2] 87)).facts
        have HR := Lib.hid hR
        have HNX := Lib.hid hnx
        clear hno hkp hab hab2 hnx hR
        go_wp2
        obtain ⟨r0, r1, r2, r3⟩ := HR.out
        refine bodyPost_ret (v := anV ⟨0, l[k].1, l[k].2, true⟩) (by simp [results, Tryd.results56, go_sem, r0, r1, r2, r3]) rfl ⟨by rw [HF.out], ?_⟩
        exact (below_st4 HNX.out (Nat.le_refl _) _ _ _ _).alloc (by simpa [World.setCell] using hsz) _
      · have HO : Hid (notAt p (k + 1)) := fun i hi => by
          rcases Nat.lt_or_ge i k with h2 | h2
          · exact hno i h2
          · obtain rfl : i = k := by omega
            exact hkp
        have hkp' : ((k : Int) == p) = false := by simpa using hkp
        have HAB := Lib.hid hab2
        clear hno hkp hab hab2
        go_wp2
        go_roundw
        case rel => exact ⟨k + 1, by omega, by go_num, HO.out, HAB.out _, hnx.alloc hsz _⟩
        case measure => simp [intOf]; omega
    · have HF : Hid (pairA l p = an0) := by
        show pairA l p = an0
        unfold pairA
        rw [if_neg]
        rintro ⟨h1, h2⟩
        refine hno p.toNat (by have := Hlen.out; omega) (by omega)
      obtain ⟨⟨a0, a1, a2, a3⟩, f0, f1, f2, f3⟩ := hab.facts
      have HNX := Lib.hid hnx
      clear hno hab hab2 hnx
      go_wp2
      exact bodyPost_ret (v := anV an0) (by simp [results, Tryd.results56, go_sem, a0, a1, a2, a3]) rfl ⟨by rw [HF.out], below_st4 HNX.out (Nat.le_refl _) _ _ _ _⟩

end Go.Proofs.YtolgncaaffmmnaaDoor

/-
  Without.
-/
namespace Go.Proofs.YtolgncaaffmmnaaDoor
open Go.RowKit

/-- a slice of the call's own that reads as pairs -/
def OwnP (w : World) (base : Nat) (v : Value) (L : PL) : Prop := w.ownsRow base 87 2 v L.length (flat L)
theorem OwnP.ps {w : World} {base : Nat} {v : Value} {L : PL} (h : OwnP w base v L) : ∃ A c, v = .slice A L.length c ∧ PS w A L.length c L ∧ ∀ ad, A = some ad → base ≤ ad.block := by
  rcases h.2 with ⟨rfl, h0⟩ | ⟨g, cap, cur, rfl, hb, hg, hnc, _, hsz, htk⟩
  · have hl : L = [] := List.eq_nil_of_length_eq_zero h0
    subst hl
    exact ⟨none, 0, rfl, ⟨rfl, Rd.none_⟩, fun _ h => by cases h⟩
  · refine ⟨_, cap, rfl, ⟨rfl, hnc, fun _ => ⟨g, 0, rfl, ?_, fun i hi j hj => ?_⟩⟩, fun ad h => by cases h; exact hb⟩
    · rcases Nat.lt_or_ge g w.heap.size with hlt | hge
      · exact hlt
      · rw [Array.getElem?_eq_none hge] at hg; cases hg
    · rw [cell_of_row _ _ _ _ _ _ hg]
      have hl : L[i]?.getD (0, 0) = L[i] := by simp [List.getElem?_eq_getElem hi]
      have hf := flat_at L i hi
      rw [← htk, List.getElem?_take, List.getElem?_take, if_pos (by omega), if_pos (by omega)] at hf
      rcases (show j = 0 ∨ j = 1 by omega) with rfl | rfl
      · simpa [pf, hl] using hf.1
      · simpa [pf, hl] using hf.2
theorem own_ge {w : World} {base e s n : Nat} {v : Value} {xs : List Value} (h : w.ownsRow base e s v n xs) : ∀ g, v.ownBlock = some g → base ≤ g := by
  intro g hg
  rcases h.2 with ⟨rfl, _⟩ | ⟨g', cap, cur, rfl, hb, _⟩
  · simp [Value.ownBlock] at hg
  · simp [Value.ownBlock] at hg; omega

def wo (l : PL) (key : Int) : PL := l.filter fun p => p.1 != key
theorem wo_step (l : PL) (key : Int) (k : Nat) (h : k < l.length) : wo (l.take (k + 1)) key = wo (l.take k) key ++ if l[k].1 = key then [] else [l[k]] := by
  rw [List.take_succ_eq_append_getElem h]
  unfold wo
  rw [List.filter_append]
  by_cases hk : l[k].1 = key <;> simp [hk]
theorem wo_len (l : PL) (key : Int) : (wo l key).length ≤ l.length := List.length_filter_le _ _

set_option maxRecDepth 100000 in
set_option maxHeartbeats 1000000 in
theorem Without_any (A : Option Addr) (n c : Nat) (l : PL) (key : Int) (w : World) (h : PS w A n c l) (hn : n ≤ 1000000) :
    Calls Tryd.prog 55 #[.slice A n c, I key] w fun e w' => ∃ v, e = .returned v ∧ OwnP w' w.heap.size v (wo l key) ∧ Below w.heap.size w w' := by
  have H := Lib.hid h
  have Hlen := Lib.hid h.len
  clear h
  obtain ⟨i0, hi, hz0, hz1, hz2⟩ := info_parts pair_info
  have HI := Lib.hid hi
  have HZ0 := Lib.hid hz0
  have HZ1 := Lib.hid hz1
  have HZ2 := Lib.hid hz2
  clear hi hz0 hz1 hz2
  go_enter Tryd.func55, Tryd.ntmps55
  go_wp2
  go_loopw [5, 10] (fun v i wr => ∃ k : Nat, k ≤ n ∧ i = .int .i64 k ∧ OwnP wr w.heap.size v (wo (l.take k) key) ∧ Below w.heap.size w wr) (fun _ i _ => n - (intOf i).toNat)
  case atStart => exact ⟨0, Nat.zero_le _, rfl, World.ownsRow_nil _ _ _ _, Below.refl _ _⟩
  case round =>
    obtain ⟨k, hk, rfl, hown, hnx⟩ := hrel
    have hsz := hnx.size
    by_cases hlt : k < n
    · obtain ⟨b, off, rfl, hb, hc⟩ := H.out.at_ (by omega)
      have hkl : k < l.length := by have := Hlen.out; omega
      have hc0 : wr.cell? ⟨b, off + k * 2, none⟩ = some (I l[k].1) := (hnx.cell (by exact hb)).trans (hc k hlt).1
      have hc1 : wr.cell? ⟨b, off + k * 2 + 1, none⟩ = some (I l[k].2) := (hnx.cell (by exact hb)).trans (hc k hlt).2
      have hst := wo_step l key k hkl
      have HST := Lib.hid hst
      have hwl : (wo (l.take k) key).length ≤ k := Nat.le_trans (wo_len _ _) (by simp; omega)
      have HOWN := Lib.hid hown
      have HNX := Lib.hid hnx
      clear hc hst hown hnx
      by_cases hkey : l[k].1 = key
      · have hkey' : (l[k].1 != key) = false := by simp [hkey]
        have HK := Lib.hid hkey
        clear hkey
        go_wp2
        go_roundw
        case rel => exact ⟨k + 1, by omega, by go_num, by rw [HST.out, if_pos HK.out, List.append_nil]; exact HOWN.out.alloc _, HNX.out.alloc hsz _⟩
        case measure => simp [intOf]; omega
      · have hkey' : (l[k].1 != key) = true := by simp [hkey]
        have HK := Lib.hid hkey
        clear hkey
        have hbase : w.heap.size ≤ ((wr.alloc (.cells #[I l[k].1, I l[k].2] 87)).alloc (.cells #[I l[k].1, I l[k].2] 87)).heap.size := by simp; omega
        have HBASE := Lib.hid hbase
        have HBX := Lib.hid ((HNX.out.alloc hsz (.cells #[I l[k].1, I l[k].2] 87)).alloc (by simp; omega) (.cells #[I l[k].1, I l[k].2] 87))
        have hnews : ∀ (j : Nat) (u : Value), ([I l[k].1, I l[k].2] : List Value)[j]? = some u → ((wr.alloc (.cells #[I l[k].1, I l[k].2] 87)).alloc (.cells #[I l[k].1, I l[k].2] 87)).cell? ((⟨wr.heap.size + 1, 0, none⟩ : Addr).add j) = some u := by
          intro j u hu
          rw [addn]
          have hnew := heap_alloc_new (wr.alloc (.cells #[I l[k].1, I l[k].2] 87)) (.cells #[I l[k].1, I l[k].2] 87)
          simp only [World.size_alloc] at hnew
          rw [cell_of_row _ _ _ _ _ _ hnew]
          simpa using hu
        have HNEWS := Lib.hid hnews
        have HOW2 := Lib.hid (World.ownsRow.alloc (World.ownsRow.alloc (show wr.ownsRow w.heap.size 87 2 _ (wo (l.take k) key).length (flat (wo (l.take k) key)) from HOWN.out) (.cells #[I l[k].1, I l[k].2] 87)) (.cells #[I l[k].1, I l[k].2] 87))
        clear hbase hnews
        go_wp2_with (at_builtin; refine wpList_append_own _ rfl (.tmp 18) (.tmp 20) 40 rfl w.heap.size 87 i0 _ 2 16 Tryd.underlying40 HI.out HZ0.out HZ1.out HZ2.out rfl (by decide) _ _ _ rfl HOW2.out ⟨wr.heap.size + 1, 0, none⟩ 1 1 [I l[k].1, I l[k].2] rfl rfl HNEWS.out (by intro u hu; simp at hu; rcases hu with rfl | rfl <;> rfl) (by unfold maxLen; omega) (by omega) HBASE.out ?_)
        intro v' w1 hown' hgrow _
        have hbw1 : Below w.heap.size w w1 := HBX.out.grown hgrow HBASE.out (own_ge HOWN.out)
        have HO1 : Hid (OwnP w1 w.heap.size v' (wo (l.take (k + 1)) key)) := by
          show w1.ownsRow _ _ _ _ _ _
          rw [HST.out, if_neg HK.out, List.length_append, flat_append]
          exact hown'
        have HB1 := Lib.hid hbw1
        clear hown' hgrow hbw1
        go_wp2
        go_roundw
        case rel => exact ⟨k + 1, by omega, by go_num, HO1.out, HB1.out⟩
        case measure => simp [intOf]; omega
    · have htk : l.take k = l := List.take_of_length_le (by have := Hlen.out; omega)
      rw [htk] at hown
      have HOWN := Lib.hid hown
      have HNX := Lib.hid hnx
      clear hown hnx htk
      go_wp2
      go_ret
      exact ⟨_, rfl, HOWN.out, HNX.out⟩

end Go.Proofs.YtolgncaaffmmnaaDoor
