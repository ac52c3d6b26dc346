/-
  Joined texts: YtpnjnedfcdppaaaGreatDoorRef, YtpnjnedfcdppaaaGreatDoorWithout, YtpnjnedfcdppaaaGreatDoorApp, YtpnjnedfcdppaaaGreatDoorDonePure, YtpnjnedfcdppaaaGreatDoorDone.
-/
import Derived.Test.YtpnjnedfcdppaaaGreatDoorRanksAll
import Derived.Deep.AppendLies
import Derived.Test.YtpnjnedfcdppaaaGreatDoorGRefUAll
import Derived.Maps.AppendAt
import Derived.Deep.RegionLaw
/-
  Has, nth, Without.
-/
namespace Go.Proofs.YtpnjnedfcdppaaaGreatDoor
open Go.RowKit

def hasV (l : PL) (key : Int) : Int := ((l.find? fun p => p.1 == key).map (·.2)).getD 0
def hasI (l : PL) (key : Int) : Bool := (l.find? fun p => p.1 == key).isSome
def noneTo (l : PL) (key : Int) (k : Nat) : Prop := ∀ i, i < k → ((l[i]?.getD (key + 1, 0)).1 == key) = false
theorem noneTo_find (l : PL) (key : Int) : ∀ k (h : k < l.length), noneTo l key k → (l[k].1 == key) = true → l.find? (fun p => p.1 == key) = some l[k] := by
  induction l with
  | nil => intro k h; simp at h
  | cons p t ih =>
    intro k h hn hk
    cases k with
    | zero => simp only [List.getElem_cons_zero] at hk ⊢; simp [List.find?_cons, hk]
    | succ k =>
      have h0 := hn 0 (by omega)
      simp only [List.getElem?_cons_zero, Option.getD_some] at h0
      simp only [List.find?_cons, h0, List.getElem_cons_succ]
      exact ih k (by simpa using h) (fun i hi => by have := hn (i + 1) (by omega); simpa using this) (by simpa using hk)
theorem noneTo_all (l : PL) (key : Int) (h : noneTo l key l.length) : l.find? (fun p => p.1 == key) = none := by
  rw [List.find?_eq_none]
  intro x hx
  obtain ⟨i, hi, rfl⟩ := List.getElem_of_mem hx
  have := h i hi
  simpa [List.getElem?_eq_getElem hi] using this
theorem noneTo_succ {l : PL} {key : Int} {k : Nat} (hk : k < l.length) (h : noneTo l key k) (h1 : (l[k].1 == key) = false) : noneTo l key (k + 1) := fun i hi => by
  rcases Nat.lt_or_ge i k with h2 | h2
  · exact h i h2
  · obtain rfl : i = k := by omega
    simpa [List.getElem?_eq_getElem hk] using h1

set_option maxHeartbeats 1000000 in
theorem Has_any (A : Option Addr) (n c : Nat) (l : PL) (key : Int) (w : World) (h : PS w A n c l) (hn : n ≤ 1000000) :
    Calls Tryz.prog 167 #[.slice A n c, I key] w fun e w' => e = .returned (.tuple #[I (hasV l key), .bool (hasI l key)]) ∧ Below w.heap.size w w' := by
  have H := Lib.hid h
  have Hlen := Lib.hid h.len
  clear h
  go_enter Tryz.func167, Tryz.ntmps167
  go_wp2
  go_loopw [10] (fun i wr => ∃ k : Nat, k ≤ n ∧ i = .int .i64 k ∧ noneTo l key k ∧ Below w.heap.size w wr) (fun i _ => n - (intOf i).toNat)
  case atStart => exact ⟨0, Nat.zero_le _, rfl, fun i hi => absurd hi (by omega), Below.refl _ _⟩
  case round =>
    obtain ⟨k, hk, rfl, hno, hnx⟩ := hrel
    by_cases hlt : k < n
    · obtain ⟨b, off, rfl, hb, hc⟩ := H.out.at_ (by omega)
      have hkl : k < l.length := by have := Hlen.out; omega
      have hc0 : wr.cell? ⟨b, off + k * 2, none⟩ = some (I l[k].1) := (hnx.cell (by exact hb)).trans (hc k hlt).1
      have hc1 : wr.cell? ⟨b, off + k * 2 + 1, none⟩ = some (I l[k].2) := (hnx.cell (by exact hb)).trans (hc k hlt).2
      have hsz := hnx.size
      clear hc
      cases hkey : (l[k].1 == key) with
      | true =>
        have hf := noneTo_find l key k hkl hno hkey
        have HF : Hid (hasV l key = l[k].2 ∧ hasI l key = true) := by show _ ∧ _; simp [hasV, hasI, hf]
        clear hno hf
        go_wp2
        go_ret2
        refine ⟨?_, hnx.alloc hsz _⟩
        rw [HF.out.1, HF.out.2]
        rfl
      | false =>
        have HO := Lib.hid (noneTo_succ hkl hno hkey)
        clear hno
        go_wp2
        go_roundw
        case rel => exact ⟨k + 1, by omega, by go_num, HO.out, hnx.alloc hsz _⟩
        case measure => simp [intOf]; omega
    · have hf := noneTo_all l key (by rw [Hlen.out, show n = k by omega]; exact hno)
      have HF : Hid (hasV l key = 0 ∧ hasI l key = false) := by show _ ∧ _; simp [hasV, hasI, hf]
      clear hno hf
      go_wp2
      go_ret2
      refine ⟨?_, hnx⟩
      rw [HF.out.1, HF.out.2]
      rfl

def notAt (p : Int) (k : Nat) : Prop := ∀ i : Nat, i < k → (i : Int) ≠ p

set_option maxRecDepth 100000 in
set_option maxHeartbeats 1000000 in
theorem nth_any (A : Option Addr) (n c : Nat) (l : PL) (p : Int) (w : World) (h : PS w A n c l) (hn : n ≤ 1000000) :
    Calls Tryz.prog 170 #[.slice A n c, I p] w fun e w' => e = .returned (anV (pairA l p)) ∧ Below w.heap.size w w' := by
  have H := Lib.hid h
  have Hlen := Lib.hid h.len
  clear h
  have hb0 : Below w.heap.size w (w.alloc ansO) := (Below.refl _ _).alloc (Nat.le_refl _) _
  have HAB0 := Lib.hid (AB.new w)
  have HB0 := Lib.hid hb0
  clear hb0
  go_enter Tryz.func170, Tryz.ntmps170
  go_wp2
  go_loopw [9] (fun i wr => ∃ k : Nat, k ≤ n ∧ i = .int .i64 k ∧ notAt p k ∧ AB wr w.heap.size ∧ Below w.heap.size w wr) (fun i _ => n - (intOf i).toNat)
  case atStart => exact ⟨0, Nat.zero_le _, rfl, fun i hi => absurd hi (by omega), HAB0.out, HB0.out⟩
  case round =>
    obtain ⟨k, hk, rfl, hno, hab, hnx⟩ := hrel
    have hz : w.heap.size < wr.heap.size := by
      rcases Nat.lt_or_ge w.heap.size wr.heap.size with h1 | h1
      · exact h1
      · unfold AB at hab; rw [Array.getElem?_eq_none h1] at hab; cases hab
    have hab2 : ∀ o : Obj, AB (wr.alloc o) w.heap.size := fun o => hab.below (B := wr.heap.size) ((Below.refl _ _).alloc (Nat.le_refl _) _) hz
    by_cases hlt : k < n
    · obtain ⟨b, off, rfl, hb, hc⟩ := H.out.at_ (by omega)
      have hkl : k < l.length := by have := Hlen.out; omega
      have hc0 : wr.cell? ⟨b, off + k * 2, none⟩ = some (I l[k].1) := (hnx.cell (by exact hb)).trans (hc k hlt).1
      have hc1 : wr.cell? ⟨b, off + k * 2 + 1, none⟩ = some (I l[k].2) := (hnx.cell (by exact hb)).trans (hc k hlt).2
      have hsz := hnx.size
      clear hc
      by_cases hkp : (k : Int) = p
      · have HF : Hid (pairA l p = ⟨0, l[k].1, l[k].2, true⟩) := by rw [← hkp]; exact pairA_in l k hkl
        have hkp' : ((k : Int) == p) = true := by simpa using hkp
        obtain ⟨⟨a0, a1, a2, a3⟩, f0, f1, f2, f3⟩ := hab.facts
        have hR := ((AA.st4 (a := an0) hab 0 l[k].1 l[k].2 true).alloc (.cells #[I l[k].1, I l[k].2] 48)).facts
        have HR := Lib.hid hR
        have HNX := Lib.hid hnx
        clear hno hkp hab hab2 hnx hR
        go_wp2
        obtain ⟨r0, r1, r2, r3⟩ := HR.out
        refine bodyPost_ret (v := anV ⟨0, l[k].1, l[k].2, true⟩) (by simp [results, Tryz.results170, go_sem, r0, r1, r2, r3]) rfl ⟨by rw [HF.out], ?_⟩
        exact (below_st4 HNX.out (Nat.le_refl _) _ _ _ _).alloc (by simpa [World.setCell] using hsz) _
      · have HO : Hid (notAt p (k + 1)) := fun i hi => by
          rcases Nat.lt_or_ge i k with h2 | h2
          · exact hno i h2
          · obtain rfl : i = k := by omega
            exact hkp
        have hkp' : ((k : Int) == p) = false := by simpa using hkp
        have HAB := Lib.hid hab2
        clear hno hkp hab hab2
        go_wp2
        go_roundw
        case rel => exact ⟨k + 1, by omega, by go_num, HO.out, HAB.out _, hnx.alloc hsz _⟩
        case measure => simp [intOf]; omega
    · have HF : Hid (pairA l p = an0) := by
        show pairA l p = an0
        unfold pairA
        rw [if_neg]
        rintro ⟨h1, h2⟩
        refine hno p.toNat (by have := Hlen.out; omega) (by omega)
      obtain ⟨⟨a0, a1, a2, a3⟩, f0, f1, f2, f3⟩ := hab.facts
      have HNX := Lib.hid hnx
      clear hno hab hab2 hnx
      go_wp2
      exact bodyPost_ret (v := anV an0) (by simp [results, Tryz.results170, go_sem, a0, a1, a2, a3]) rfl ⟨by rw [HF.out], below_st4 HNX.out (Nat.le_refl _) _ _ _ _⟩

end Go.Proofs.YtpnjnedfcdppaaaGreatDoor

/-
  Without.
-/
namespace Go.Proofs.YtpnjnedfcdppaaaGreatDoor
open Go.RowKit

def OwnP (w : World) (base : Nat) (v : Value) (L : PL) : Prop := w.ownsRow base 48 2 v L.length (flat L)
theorem OwnP.ps {w : World} {base : Nat} {v : Value} {L : PL} (h : OwnP w base v L) : ∃ A c, v = .slice A L.length c ∧ PS w A L.length c L ∧ ∀ ad, A = some ad → base ≤ ad.block := by
  rcases h.2 with ⟨rfl, h0⟩ | ⟨g, cap, cur, rfl, hb, hg, hnc, _, hsz, htk⟩
  · have hl : L = [] := List.eq_nil_of_length_eq_zero h0
    subst hl
    exact ⟨none, 0, rfl, ⟨rfl, Rd.none_⟩, fun _ h => by cases h⟩
  · refine ⟨_, cap, rfl, ⟨rfl, hnc, fun _ => ⟨g, 0, rfl, ?_, fun i hi j hj => ?_⟩⟩, fun ad h => by cases h; exact hb⟩
    · rcases Nat.lt_or_ge g w.heap.size with hlt | hge
      · exact hlt
      · rw [Array.getElem?_eq_none hge] at hg; cases hg
    · rw [cell_of_row _ _ _ _ _ _ hg]
      have hl : L[i]?.getD (0, 0) = L[i] := by simp [List.getElem?_eq_getElem hi]
      have hf := flat_at L i hi
      rw [← htk, List.getElem?_take, List.getElem?_take, if_pos (by omega), if_pos (by omega)] at hf
      rcases (show j = 0 ∨ j = 1 by omega) with rfl | rfl
      · simpa [pf, hl] using hf.1
      · simpa [pf, hl] using hf.2
theorem own_ge {w : World} {base e s n : Nat} {v : Value} {xs : List Value} (h : w.ownsRow base e s v n xs) : ∀ g, v.ownBlock = some g → base ≤ g := by
  intro g hg
  rcases h.2 with ⟨rfl, _⟩ | ⟨g', cap, cur, rfl, hb, _⟩
  · simp [Value.ownBlock] at hg
  · simp [Value.ownBlock] at hg; omega

def wo (l : PL) (key : Int) : PL := l.filter fun p => p.1 != key
theorem wo_step (l : PL) (key : Int) (k : Nat) (h : k < l.length) : wo (l.take (k + 1)) key = wo (l.take k) key ++ if l[k].1 = key then [] else [l[k]] := by
  rw [List.take_succ_eq_append_getElem h]
  unfold wo
  rw [List.filter_append]
  by_cases hk : l[k].1 = key <;> simp [hk]
theorem wo_len (l : PL) (key : Int) : (wo l key).length ≤ l.length := List.length_filter_le _ _

set_option maxRecDepth 100000 in
set_option maxHeartbeats 1000000 in
theorem Without_any (A : Option Addr) (n c : Nat) (l : PL) (key : Int) (w : World) (h : PS w A n c l) (hn : n ≤ 1000000) :
    Calls Tryz.prog 169 #[.slice A n c, I key] w fun e w' => ∃ v, e = .returned v ∧ OwnP w' w.heap.size v (wo l key) ∧ Below w.heap.size w w' := by
  have H := Lib.hid h
  have Hlen := Lib.hid h.len
  clear h
  obtain ⟨i0, hi, hz0, hz1, hz2⟩ := info_parts pair_info
  have HI := Lib.hid hi
  have HZ0 := Lib.hid hz0
  have HZ1 := Lib.hid hz1
  have HZ2 := Lib.hid hz2
  clear hi hz0 hz1 hz2
  go_enter Tryz.func169, Tryz.ntmps169
  go_wp2
  go_loopw [5, 10] (fun v i wr => ∃ k : Nat, k ≤ n ∧ i = .int .i64 k ∧ OwnP wr w.heap.size v (wo (l.take k) key) ∧ Below w.heap.size w wr) (fun _ i _ => n - (intOf i).toNat)
  case atStart => exact ⟨0, Nat.zero_le _, rfl, World.ownsRow_nil _ _ _ _, Below.refl _ _⟩
  case round =>
    obtain ⟨k, hk, rfl, hown, hnx⟩ := hrel
    have hsz := hnx.size
    by_cases hlt : k < n
    · obtain ⟨b, off, rfl, hb, hc⟩ := H.out.at_ (by omega)
      have hkl : k < l.length := by have := Hlen.out; omega
      have hc0 : wr.cell? ⟨b, off + k * 2, none⟩ = some (I l[k].1) := (hnx.cell (by exact hb)).trans (hc k hlt).1
      have hc1 : wr.cell? ⟨b, off + k * 2 + 1, none⟩ = some (I l[k].2) := (hnx.cell (by exact hb)).trans (hc k hlt).2
      have hst := wo_step l key k hkl
      have HST := Lib.hid hst
      have hwl : (wo (l.take k) key).length ≤ k := Nat.le_trans (wo_len _ _) (by simp; omega)
      have HOWN := Lib.hid hown
      have HNX := Lib.hid hnx
      clear hc hst hown hnx
      by_cases hkey : l[k].1 = key
      · have hkey' : (l[k].1 != key) = false := by simp [hkey]
        have HK := Lib.hid hkey
        clear hkey
        go_wp2
        go_roundw
        case rel => exact ⟨k + 1, by omega, by go_num, by rw [HST.out, if_pos HK.out, List.append_nil]; exact HOWN.out.alloc _, HNX.out.alloc hsz _⟩
        case measure => simp [intOf]; omega
      · have hkey' : (l[k].1 != key) = true := by simp [hkey]
        have HK := Lib.hid hkey
        clear hkey
        have hbase : w.heap.size ≤ ((wr.alloc (.cells #[I l[k].1, I l[k].2] 48)).alloc (.cells #[I l[k].1, I l[k].2] 48)).heap.size := by simp; omega
        have HBASE := Lib.hid hbase
        have HBX := Lib.hid ((HNX.out.alloc hsz (.cells #[I l[k].1, I l[k].2] 48)).alloc (by simp; omega) (.cells #[I l[k].1, I l[k].2] 48))
        have hnews : ∀ (j : Nat) (u : Value), ([I l[k].1, I l[k].2] : List Value)[j]? = some u → ((wr.alloc (.cells #[I l[k].1, I l[k].2] 48)).alloc (.cells #[I l[k].1, I l[k].2] 48)).cell? ((⟨wr.heap.size + 1, 0, none⟩ : Addr).add j) = some u := by
          intro j u hu
          rw [addn]
          have hnew := heap_alloc_new (wr.alloc (.cells #[I l[k].1, I l[k].2] 48)) (.cells #[I l[k].1, I l[k].2] 48)
          simp only [World.size_alloc] at hnew
          rw [cell_of_row _ _ _ _ _ _ hnew]
          simpa using hu
        have HNEWS := Lib.hid hnews
        have HOW2 := Lib.hid (World.ownsRow.alloc (World.ownsRow.alloc (show wr.ownsRow w.heap.size 48 2 _ (wo (l.take k) key).length (flat (wo (l.take k) key)) from HOWN.out) (.cells #[I l[k].1, I l[k].2] 48)) (.cells #[I l[k].1, I l[k].2] 48))
        clear hbase hnews
        go_wp2_with (at_builtin; refine wpList_append_own _ rfl (.tmp 18) (.tmp 20) 33 rfl w.heap.size 48 i0 _ 2 16 Tryz.underlying33 HI.out HZ0.out HZ1.out HZ2.out rfl (by decide) _ _ _ rfl HOW2.out ⟨wr.heap.size + 1, 0, none⟩ 1 1 [I l[k].1, I l[k].2] rfl rfl HNEWS.out (by intro u hu; simp at hu; rcases hu with rfl | rfl <;> rfl) (by unfold maxLen; omega) (by omega) HBASE.out ?_)
        intro v' w1 hown' hgrow _
        have hbw1 : Below w.heap.size w w1 := HBX.out.grown hgrow HBASE.out (own_ge HOWN.out)
        have HO1 : Hid (OwnP w1 w.heap.size v' (wo (l.take (k + 1)) key)) := by
          show w1.ownsRow _ _ _ _ _ _
          rw [HST.out, if_neg HK.out, List.length_append, flat_append]
          exact hown'
        have HB1 := Lib.hid hbw1
        clear hown' hgrow hbw1
        go_wp2
        go_roundw
        case rel => exact ⟨k + 1, by omega, by go_num, HO1.out, HB1.out⟩
        case measure => simp [intOf]; omega
    · have htk : l.take k = l := List.take_of_length_le (by have := Hlen.out; omega)
      rw [htk] at hown
      have HOWN := Lib.hid hown
      have HNX := Lib.hid hnx
      clear hown hnx htk
      go_wp2
      go_ret
      exact ⟨_, rfl, HOWN.out, HNX.out⟩

end Go.Proofs.YtpnjnedfcdppaaaGreatDoor

/-
  append onto a row of pairs of the call's own, as one step of a region that draws its order.
-/
namespace Go.Proofs.YtpnjnedfcdppaaaGreatDoor
open Go.RowKit

def BB (w : World) (g : Nat) (k v : Int) : Prop := w.heap[g]? = some (.cells #[I k, I v] 48 (0, 0))

theorem BB.lt {w : World} {g : Nat} {k v : Int} (h : BB w g k v) : g < w.heap.size := by
  rcases Nat.lt_or_ge g w.heap.size with hlt | hge
  · exact hlt
  · unfold BB at h; rw [Array.getElem?_eq_none hge] at h; cases h
theorem BB.src {w : World} {g : Nat} {k v : Int} (h : BB w g k v) : Src w (some ⟨g, 0, none⟩) 1 [(k, v)] := by
  refine ⟨rfl, fun _ => ⟨_, rfl, fun j u hu => ?_⟩⟩
  rw [addn, cell_of_row _ _ _ _ _ _ h]
  simpa [flat] using hu
theorem BB.grown {w w' : World} {g : Nat} {k v : Int} {row : Option Nat} (h : BB w g k v) (hg : w.grownBy w' row) (hne : some g ≠ row) : BB w' g k v := (hg.block g h.lt hne).trans h
theorem BB.new (w : World) (k v : Int) : BB (w.alloc (.cells #[I k, I v] 48)) w.heap.size k v := heap_alloc_new w _
theorem BB.alloc {w : World} {g : Nat} {k v : Int} (h : BB w g k v) (o : Obj) : BB (w.alloc o) g k v := (Below.heap_alloc w o g h.lt).trans h

abbrev emO : Obj := .cells #[] 48
abbrev prO (k v : Int) : Obj := .cells #[I k, I v] 48
theorem own_empty {w : World} {B g : Nat} (h : w.heap[g]? = some emO) (hB : B ≤ g) : w.ownsRow B 48 2 (.slice (some ⟨g, 0, none⟩) 0 0) ([] : PL).length (flat []) :=
  ⟨rfl, .inr ⟨g, 0, #[], rfl, hB, h, Nat.le_refl _, Nat.zero_le _, rfl, rfl⟩⟩
theorem heap_two (w : World) (a b : Obj) : ((w.alloc a).alloc b).heap[w.heap.size]? = some a ∧ ((w.alloc a).alloc b).heap[w.heap.size + 1]? = some b := by
  refine ⟨?_, ?_⟩
  · have h1 := heap_alloc_new w a
    have h2 := Below.heap_alloc (w.alloc a) b w.heap.size (by simp)
    rw [h2]; exact h1
  · have h1 := heap_alloc_new (w.alloc a) b
    simpa using h1
theorem way1 (w : World) : (w.alloc emO).drew.ownsRow w.heap.size 48 2 (.slice (some ⟨w.heap.size, 0, none⟩) 0 0) ([] : PL).length (flat []) ∧ Below w.heap.size w (w.alloc emO).drew :=
  ⟨own_empty (w := (w.alloc emO).drew) (heap_alloc_new w _) (Nat.le_refl _), ((Below.refl _ _).alloc (Nat.le_refl _) _).drew⟩
theorem way2 (w : World) (k v : Int) : ((w.alloc emO).alloc (prO k v)).drew.ownsRow w.heap.size 48 2 (.slice (some ⟨w.heap.size, 0, none⟩) 0 0) ([] : PL).length (flat []) ∧ Below w.heap.size w ((w.alloc emO).alloc (prO k v)).drew ∧ BB ((w.alloc emO).alloc (prO k v)).drew (w.heap.size + 1) k v :=
  ⟨own_empty (w := ((w.alloc emO).alloc (prO k v)).drew) (heap_two w _ _).1 (Nat.le_refl _), (((Below.refl _ _).alloc (Nat.le_refl _) _).alloc (by simp) _).drew, (heap_two w _ _).2⟩
theorem way3 (w : World) (k v : Int) : ((w.alloc (prO k v)).alloc emO).drew.ownsRow w.heap.size 48 2 (.slice (some ⟨w.heap.size + 1, 0, none⟩) 0 0) ([] : PL).length (flat []) ∧ Below w.heap.size w ((w.alloc (prO k v)).alloc emO).drew ∧ BB ((w.alloc (prO k v)).alloc emO).drew w.heap.size k v :=
  ⟨own_empty (w := ((w.alloc (prO k v)).alloc emO).drew) (heap_two w _ _).2 (by omega), (((Below.refl _ _).alloc (Nat.le_refl _) _).alloc (by simp) _).drew, (heap_two w _ _).1⟩

theorem own_mono {w : World} {B B' e s n : Nat} {v : Value} {xs : List Value} (h : w.ownsRow B e s v n xs) (hB : B' ≤ B) : w.ownsRow B' e s v n xs := by
  refine ⟨h.1, ?_⟩
  rcases h.2 with h0 | ⟨g, cap, cur, h1, h2, h3⟩
  · exact .inl h0
  · exact .inr ⟨g, cap, cur, h1, by omega, h3⟩
def wiL (l : PL) (key val : Int) : PL := (wo l key).take (blw (wo l key) key) ++ [(key, val)] ++ (wo l key).drop (blw (wo l key) key)

set_option maxRecDepth 100000 in
set_option maxHeartbeats 4000000 in
theorem With_any (A : Option Addr) (n c : Nat) (l : PL) (key val : Int) (w : World) (h : PS w A n c l) (hn : n ≤ 1000) :
    Calls Tryz.prog 168 #[.slice A n c, .agg #[I key, I val]] w fun e w' => ∃ v, e = .returned v ∧ OwnP w' w.heap.size v (wiL l key val) ∧ Below w.heap.size w w' := by
  have H := Lib.hid h
  have Hlen := Lib.hid h.len
  clear h
  go_enter Tryz.func168, Tryz.ntmps168
  go_wp2_with fail
  refine (Without_any A n c l key _ (H.out.alloc _) (by omega)).mono ?_
  rintro e w1 ⟨v1, rfl, hown, hb⟩
  obtain ⟨A1, c1, rfl, hps, hfr⟩ := hown.ps
  have hwl : (wo l key).length ≤ n := by rw [← Hlen.out]; exact wo_len _ _
  have hpb : BB w1 w.heap.size key val := (hb.block _ (by simp)).trans (heap_alloc_new w _)
  have HBW1 : Hid (Below w.heap.size w w1) := below_step (Below.refl _ _) hb
  have x0 : w1.cell? ⟨w.heap.size, 0, none⟩ = some (I key) := by unfold BB at hpb; simp [World.cell?, hpb]
  have HPB := Lib.hid hpb
  have HPS := Lib.hid hps
  clear hown hb hps hfr hpb
  go_wp2_with fail
  refine (Below_any A1 _ c1 (wo l key) key _ HPS.out (by omega)).mono ?_
  rintro e w2 ⟨rfl, hb⟩
  have hpb : BB w2 w.heap.size key val := (hb.block _ HPB.out.lt).trans HPB.out
  have y0 : w2.cell? ⟨w.heap.size, 0, none⟩ = some (I key) := by unfold BB at hpb; simp [World.cell?, hpb]
  have y1 : w2.cell? ⟨w.heap.size, 1, none⟩ = some (I val) := by unfold BB at hpb; simp [World.cell?, hpb]
  have yz := hpb.lt
  have HBW2 := Lib.hid (below_next HBW1.out hb)
  have HPS2 := Lib.hid (HPS.out.below hb)
  have hpl : blw (wo l key) key ≤ (wo l key).length := blw_le _ _
  have HWI : Hid (wiL l key val = (wo l key).take (blw (wo l key) key) ++ [(key, val)] ++ (wo l key).drop (blw (wo l key) key)) := rfl
  generalize blw (wo l key) key = p at *
  generalize hL : wo l key = L at *
  clear hL
  have hlc : L.length ≤ c1 := HPS2.out.rd.1
  generalize hn1 : L.length = n1 at *
  have HN1 := Lib.hid hn1
  have hpc : p ≤ c1 := by omega
  clear hb hpb x0 hn1
  go_wp2
  go_region_law (first
    | (refine step_appP rfl (.tmp 14) (.tmp 17) 33 rfl 48 Tryz.underlying33 pair_info w2.heap.size (.slice (some ⟨w2.heap.size, 0, none⟩) 0 0) [] (L.take p) A1 p c1 rfl rfl (way1 w2).1 ((HPS2.out.below (way1 w2).2).srcTake p hpl) (by simp; omega) (way1 w2).2.size ?_
       intro v3 w3 hown3 hgrow3
       have hb3 : Below w2.heap.size w2 w3 := (way1 w2).2.grown hgrow3 (way1 w2).2.size (by simp [Value.ownBlock])
       have s0 : w3.cell? ⟨w.heap.size, 0, none⟩ = some (I key) := (hb3.cell (by exact yz)).trans y0
       have s1 : w3.cell? ⟨w.heap.size, 1, none⟩ = some (I val) := (hb3.cell (by exact yz)).trans y1
       have hz3 : w2.heap.size ≤ w3.heap.size := hb3.size
       have HB3 := Lib.hid hb3
       have HO3 := Lib.hid hown3
       clear hown3 hgrow3 hb3)
    | (refine step_appP rfl (.tmp 14) (.tmp 17) 33 rfl 48 Tryz.underlying33 pair_info w2.heap.size (.slice (some ⟨w2.heap.size, 0, none⟩) 0 0) [] (L.take p) A1 p c1 rfl rfl (way2 w2 key val).1 ((HPS2.out.below (way2 w2 key val).2.1).srcTake p hpl) (by simp; omega) (way2 w2 key val).2.1.size ?_
       intro v3 w3 hown3 hgrow3
       have hb3 : Below w2.heap.size w2 w3 := (way2 w2 key val).2.1.grown hgrow3 (way2 w2 key val).2.1.size (by simp [Value.ownBlock])
       have s0 : w3.cell? ⟨w.heap.size, 0, none⟩ = some (I key) := (hb3.cell (by exact yz)).trans y0
       have s1 : w3.cell? ⟨w.heap.size, 1, none⟩ = some (I val) := (hb3.cell (by exact yz)).trans y1
       have hz3 : w2.heap.size ≤ w3.heap.size := hb3.size
       have HBB := Lib.hid ((way2 w2 key val).2.2.grown hgrow3 (by simp [Value.ownBlock]))
       have HB3 := Lib.hid hb3
       have HO3 := Lib.hid hown3
       clear hown3 hgrow3 hb3)
    | (refine step_appP rfl (.tmp 14) (.tmp 17) 33 rfl 48 Tryz.underlying33 pair_info w2.heap.size (.slice (some ⟨w2.heap.size + 1, 0, none⟩) 0 0) [] (L.take p) A1 p c1 rfl rfl (way3 w2 key val).1 ((HPS2.out.below (way3 w2 key val).2.1).srcTake p hpl) (by simp; omega) (way3 w2 key val).2.1.size ?_
       intro v3 w3 hown3 hgrow3
       have hb3 : Below w2.heap.size w2 w3 := (way3 w2 key val).2.1.grown hgrow3 (way3 w2 key val).2.1.size (by simp [Value.ownBlock])
       have s0 : w3.cell? ⟨w.heap.size, 0, none⟩ = some (I key) := (hb3.cell (by exact yz)).trans y0
       have s1 : w3.cell? ⟨w.heap.size, 1, none⟩ = some (I val) := (hb3.cell (by exact yz)).trans y1
       have hz3 : w2.heap.size ≤ w3.heap.size := hb3.size
       have HBB := Lib.hid ((way3 w2 key val).2.2.grown hgrow3 (by simp [Value.ownBlock]))
       have HB3 := Lib.hid hb3
       have HO3 := Lib.hid hown3
       clear hown3 hgrow3 hb3)
    | (refine step_appP rfl (.tmp 18) (.tmp 20) 33 rfl 48 Tryz.underlying33 pair_info w2.heap.size v3 ([] ++ L.take p) [(key, val)] (some ⟨w3.heap.size, 0, none⟩) 1 1 rfl rfl (HO3.out.alloc _) (BB.new w3 key val).src (by simp; omega) (by simp; omega) ?_
       intro v4 w4 hown4 hgrow4
       have hb4 : Below w2.heap.size w2 w4 := (HB3.out.alloc hz3 _).grown hgrow4 (by simp; omega) (own_ge HO3.out)
       have HB4 := Lib.hid hb4
       have HO4 := Lib.hid hown4
       clear hown4 hgrow4 hb4)
    | (refine step_appP rfl (.tmp 18) (.tmp 20) 33 rfl 48 Tryz.underlying33 pair_info w2.heap.size v3 ([] ++ L.take p) [(key, val)] (some ⟨w2.heap.size + 1, 0, none⟩) 1 1 rfl rfl HO3.out HBB.out.src (by simp; omega) hz3 ?_
       intro v4 w4 hown4 hgrow4
       have hb4 : Below w2.heap.size w2 w4 := HB3.out.grown hgrow4 hz3 (own_ge HO3.out)
       have HB4 := Lib.hid hb4
       have HO4 := Lib.hid hown4
       clear hown4 hgrow4 hb4)
    | (refine step_appP rfl (.tmp 18) (.tmp 20) 33 rfl 48 Tryz.underlying33 pair_info w2.heap.size v3 ([] ++ L.take p) [(key, val)] (some ⟨w2.heap.size, 0, none⟩) 1 1 rfl rfl HO3.out HBB.out.src (by simp; omega) hz3 ?_
       intro v4 w4 hown4 hgrow4
       have hb4 : Below w2.heap.size w2 w4 := HB3.out.grown hgrow4 hz3 (own_ge HO3.out)
       have HB4 := Lib.hid hb4
       have HO4 := Lib.hid hown4
       clear hown4 hgrow4 hb4)
    | (refine step_appP rfl (.tmp 21) (.tmp 24) 33 rfl 48 Tryz.underlying33 pair_info w2.heap.size v4 ([] ++ L.take p ++ [(key, val)]) (L.drop p) (if c1 = p then A1 else Option.map (fun x => x.add (p * 2)) A1) (n1 - p) (c1 - p) rfl rfl HO4.out ((HPS2.out.below HB4.out).srcDrop p hpl _ (fun hlt b off hA => by rw [if_neg (by omega), hA]; simp [addn])) (by simp; omega) HB4.out.size ?_
       intro v5 w5 hown5 hgrow5
       have hb5 : Below w2.heap.size w2 w5 := HB4.out.grown hgrow5 HB4.out.size (own_ge HO4.out)
       have HB5 := Lib.hid hb5
       have HO5 := Lib.hid hown5
       clear hown5 hgrow5 hb5))
  all_goals go_wp2
  all_goals
    go_ret
    refine ⟨v5, rfl, ?_, HBW2.out.trans (HB5.out.mono HBW2.out.size)⟩
    rw [HWI.out]
    exact own_mono HO5.out HBW2.out.size

end Go.Proofs.YtpnjnedfcdppaaaGreatDoor

/-
  Done, of a right map.
-/
namespace Go.Proofs.YtpnjnedfcdppaaaGreatDoor
open Go.RowKit

theorem find_low (l : PL) (k : Int) : ∀ lo, Srt lo l → k < lo → l.find? (fun p => p.1 == k) = none := by
  induction l with
  | nil => intro lo _ _; rfl
  | cons p t ih =>
    intro lo h hk
    have h1 : (p.1 == k) = false := by have := h.1; simp; omega
    simp only [List.find?_cons, h1]
    exact ih _ h.2.2 (by have := h.1; omega)
theorem find_eq (l : PL) (k : Int) : ∀ lo, Srt lo l → (l.find? fun p => p.1 == k).map (·.2) = getR k l := by
  induction l with
  | nil => intro lo _; rfl
  | cons p t ih =>
    intro lo h
    rw [getR]
    by_cases h1 : p.1 < k
    · have h2 : (p.1 == k) = false := by simp; omega
      simp only [List.find?_cons, h2, if_pos h1]
      exact ih _ h.2.2
    · by_cases h2 : p.1 = k
      · have h3 : (p.1 == k) = true := by simpa using h2
        simp [List.find?_cons, h2]
      · have h3 : (p.1 == k) = false := by simpa using h2
        simp only [List.find?_cons, h3, if_neg h1, if_neg h2]
        rw [find_low t k _ h.2.2 (by omega)]
        rfl
theorem hasV_eq {l : PL} (h : Srt 0 l) (k : Int) : hasV l k = (getR k l).getD 0 := by unfold hasV; rw [find_eq l k 0 h]
theorem hasI_eq {l : PL} (h : Srt 0 l) (k : Int) : hasI l k = (getR k l).isSome := by unfold hasI; rw [← find_eq l k 0 h]; simp
theorem wo_low (l : PL) (k : Int) : ∀ lo, Srt lo l → k < lo → wo l k = l := by
  induction l with
  | nil => intro lo _ _; rfl
  | cons p t ih =>
    intro lo h hk
    have h1 : (p.1 != k) = true := by have := h.1; simp; omega
    unfold wo at *
    simp only [List.filter_cons, h1, if_true]
    rw [ih _ h.2.2 (by have := h.1; omega)]
theorem wo_eq (l : PL) (k : Int) : ∀ lo, Srt lo l → wo l k = delR k l := by
  induction l with
  | nil => intro lo _; rfl
  | cons p t ih =>
    intro lo h
    rw [delR]
    by_cases h1 : p.1 < k
    · have h2 : (p.1 != k) = true := by simp; omega
      rw [if_pos h1, ← ih _ h.2.2]
      unfold wo
      simp only [List.filter_cons, h2, if_true]
    · rw [if_neg h1]
      by_cases h2 : p.1 = k
      · have h3 : (p.1 != k) = false := by simpa using h2
        rw [if_pos h2, ← wo_low t k _ h.2.2 (by omega)]
        unfold wo
        simp [List.filter_cons, h3]
      · rw [if_neg h2]
        exact wo_low (p :: t) k (k + 1) ⟨by omega, h.2⟩ (by omega)
theorem blw_eq (l : PL) (k : Int) : ∀ lo, Srt lo l → blw l k = cnt l k := by
  induction l with
  | nil => intro lo _; rfl
  | cons p t ih =>
    intro lo h
    by_cases h1 : p.1 < k
    · rw [cnt_cons_lt h1, ← ih _ h.2.2]
      simp [blw, List.filter_cons, h1]
    · rw [cnt_cons_ge h1]
      have : ∀ (m : PL) (lo : Int), Srt lo m → k ≤ lo → blw m k = 0 := by
        intro m
        induction m with
        | nil => intro lo _ _; rfl
        | cons q u ihu =>
          intro lo hs hk
          have hq : ¬ q.1 < k := by have := hs.1; omega
          have := ihu _ hs.2.2 (by have := hs.1; omega)
          simp [blw, List.filter_cons, hq] at this ⊢
          exact this
      exact this (p :: t) p.1 ⟨Int.le_refl _, h.2⟩ (by omega)
theorem ins_del_any (l : PL) (k v : Int) : ∀ lo, Srt lo l → insR k v (delR k l) = insR k v l := by
  induction l with
  | nil => intro lo _; rfl
  | cons p t ih =>
    intro lo h
    rw [delR, insR]
    by_cases h1 : p.1 < k
    · rw [if_pos h1, if_pos h1, insR, if_pos h1, ih _ h.2.2]
    · rw [if_neg h1, if_neg h1]
      by_cases h2 : p.1 = k
      · rw [if_pos h2, if_pos h2, ins_low t k v _ h.2.2 (by omega)]
      · rw [if_neg h2, if_neg h2, insR, if_neg h1, if_neg h2]
theorem wiL_eq {l : PL} (h : Srt 0 l) (k v : Int) : wiL l k v = insR k v l := by
  unfold wiL
  have hd := srt_del l k 0 h
  rw [wo_eq l k 0 h, blw_eq _ k 0 hd, ← ins_del_any l k v 0 h, ins_eq, has_iff, get_del l k k 0 h]
  simp

end Go.Proofs.YtpnjnedfcdppaaaGreatDoor

/-
  Done, of a right map: kind by kind.
-/
namespace Go.Proofs.YtpnjnedfcdppaaaGreatDoor
open Go.RowKit

def RetD (A : Option Addr) (N : Nat) (l : PL) (a : An) (w : World) (e : Ending) (w' : World) : Prop :=
  ∃ A' n c, e = .returned (.tuple #[.slice A' n c, anV a]) ∧ PS w' A' n c l ∧ Below w.heap.size w w' ∧ ((A' = A ∧ n = N) ∨ ∀ ad, A' = some ad → w.heap.size ≤ ad.block)
theorem retD_same {A : Option Addr} {l L : PL} {a : An} {w W : World} {n c : Nat} {e k v : Int} {b : Bool} (h : PS w A n c l) (hL : L = l) (hb : Below w.heap.size w W) (ha : a = ⟨e, k, v, b⟩) : RetD A n L a w (.returned (.tuple #[.slice A n c, anV ⟨e, k, v, b⟩])) W := by
  subst ha hL
  exact ⟨A, n, c, rfl, h.below hb, hb, .inl ⟨rfl, rfl⟩⟩
theorem retD_new {A A' : Option Addr} {N : Nat} {L : PL} {a : An} {w W : World} {n c : Nat} {e k v : Int} {b : Bool} (h : PS W A' n c L) (hb : Below w.heap.size w W) (ha : a = ⟨e, k, v, b⟩) (hA : ∀ ad, A' = some ad → w.heap.size ≤ ad.block) : RetD A N L a w (.returned (.tuple #[.slice A' n c, anV ⟨e, k, v, b⟩])) W := by
  subst ha
  exact ⟨A', n, c, rfl, h, hb, .inr hA⟩

set_option maxRecDepth 100000 in
set_option maxHeartbeats 2000000 in
theorem Done_kind (A : Option Addr) (n c : Nat) (l : PL) (kind key val : Int) (w : World) (h : PS w A n c l) (hc : chk l = 0) (hk : kind < 1 ∨ 7 < kind) :
    Calls Tryz.prog 103 #[.slice A n c, .agg #[I kind, I key, I val]] w (RetD A n (doL l kind key val) (doA l kind key) w) := by
  have hn : n ≤ 200 := by have := chk_len hc; rw [h.len] at this; exact this
  have hs := ((chk_zero l).1 hc).2
  have H := Lib.hid h
  have Hlen := Lib.hid h.len
  clear h
  have HB17 : Hid (btwB kind 1 7 = false) := by show btwB kind 1 7 = false; simp [btwB]; omega
  have ho : opB kind key = false := by
    unfold opB
    rw [if_neg (by omega)]
    exact decide_eq_false (by omega)
  have HF : Hid (doL l kind key val = l ∧ doA l kind key = ⟨1, 0, 0, false⟩) := by show _ ∧ _; simp [doL, doA, hc, ho]
  clear hc hs ho hk
  go_enter Tryz.func103, Tryz.ntmps103
  go_wp2_with fail
  refine (Between_f _ _ _ _ HB17.out).mono ?_
  rintro e w' ⟨rfl, rfl⟩
  go_wp2
  refine bodyPost_ret (v := .tuple #[.slice A n c, anV ⟨1, 0, 0, false⟩]) (by simp [results, Tryz.results103, go_sem]) rfl ?_
  exact retD_same H.out HF.out.1 (((Below.refl _ _).alloc (Nat.le_refl _) _).alloc (by simp) _) HF.out.2

set_option maxRecDepth 100000 in
set_option maxHeartbeats 2000000 in
theorem Done_key (A : Option Addr) (n c : Nat) (l : PL) (kind key val : Int) (w : World) (h : PS w A n c l) (hc : chk l = 0) (hk : 1 ≤ kind ∧ kind ≤ 5) (hk2 : keyB key = false) :
    Calls Tryz.prog 103 #[.slice A n c, .agg #[I kind, I key, I val]] w (RetD A n (doL l kind key val) (doA l kind key) w) := by
  have hn : n ≤ 200 := by have := chk_len hc; rw [h.len] at this; exact this
  have hs := ((chk_zero l).1 hc).2
  have H := Lib.hid h
  have Hlen := Lib.hid h.len
  clear h
  have HB17 : Hid (btwB kind 1 7 = true) := by show btwB kind 1 7 = true; simp [btwB]; omega
  have HBK : Hid (btwB key 0 1000000 = false) := hk2
  have ho : opB kind key = false := by unfold opB; rw [if_pos hk]; exact hk2
  have HF : Hid (doL l kind key val = l ∧ doA l kind key = ⟨1, 0, 0, false⟩) := by show _ ∧ _; simp [doL, doA, hc, ho]
  have h6 : kind < 6 := by omega
  clear hc hs ho hk hk2
  go_enter Tryz.func103, Tryz.ntmps103
  go_wp2_with fail
  refine (Between_t _ _ _ _ HB17.out).mono ?_
  rintro e w' ⟨rfl, rfl⟩
  go_wp2_with fail
  refine (Between_f _ _ _ _ HBK.out).mono ?_
  rintro e w' ⟨rfl, rfl⟩
  go_wp2
  refine bodyPost_ret (v := .tuple #[.slice A n c, anV ⟨1, 0, 0, false⟩]) (by simp [results, Tryz.results103, go_sem]) rfl ?_
  exact retD_same H.out HF.out.1 (((Below.refl _ _).alloc (Nat.le_refl _) _).alloc (by simp) _) HF.out.2

set_option maxRecDepth 100000 in
set_option maxHeartbeats 2000000 in
theorem Done_2 (A : Option Addr) (n c : Nat) (l : PL) (key val : Int) (w : World) (h : PS w A n c l) (hc : chk l = 0) (hk2 : keyB key = true) :
    Calls Tryz.prog 103 #[.slice A n c, .agg #[I 2, I key, I val]] w (RetD A n (doL l 2 key val) (doA l 2 key) w) := by
  have hn : n ≤ 200 := by have := chk_len hc; rw [h.len] at this; exact this
  have hs := ((chk_zero l).1 hc).2
  have H := Lib.hid h
  have Hlen := Lib.hid h.len
  clear h
  obtain ⟨g, hg⟩ : ∃ g, getR key l = g := ⟨_, rfl⟩
  have HHV : Hid (hasV l key = g.getD 0) := by show _ = _; rw [hasV_eq hs, hg]
  have HHI : Hid (hasI l key = g.isSome) := by show _ = _; rw [hasI_eq hs, hg]
  have HBK : Hid (btwB key 0 1000000 = true) := hk2
  have hk0 : 0 ≤ key := by simp [keyB] at hk2; omega
  have hk1 : key ≤ 1000000 := by simp [keyB] at hk2; omega
  have HF : Hid (doL l 2 key val = l ∧ doA l 2 key = ⟨0, 0, g.getD 0, g.isSome⟩) := by
    show _ ∧ _
    refine ⟨by simp [doL, hc, opB, hk2], ?_⟩
    rw [doA_get hc, hk2, if_pos rfl, getA_eq, hg]
    cases g <;> rfl
  clear hc hs hg hk2
  go_enter Tryz.func103, Tryz.ntmps103
  go_wp2_with fail
  refine (Between_t _ _ _ _ (by decide)).mono ?_
  rintro e w' ⟨rfl, rfl⟩
  go_wp2_with fail
  refine (Between_t _ _ _ _ HBK.out).mono ?_
  rintro e w' ⟨rfl, rfl⟩
  go_wp2_with fail
  refine (Has_any A n c l key _ (H.out.below (w0_below w 2 key val)) (by omega)).mono ?_
  rintro e w1 ⟨rfl, hb⟩
  rw [HHV.out, HHI.out]
  have hsz := w0_size w 2 key val
  have hab : AB w1 (w.heap.size + 1) := (w0_ab w 2 key val).below hb (by omega)
  have hob : OB w1 w.heap.size 2 key val := (w0_ob w 2 key val).below hb (by omega)
  obtain ⟨o0, o1, o2⟩ := hob.facts
  have HSZ1 : Hid (w.heap.size + 2 ≤ w1.heap.size) := by have := hb.size; show _ ≤ _; omega
  have HB1 := Lib.hid ((w0_below w 2 key val).trans (hb.mono (by omega)))
  have HAB1 := Lib.hid hab
  clear hb hab hob hsz
  obtain ⟨⟨a0, a1, a2, a3⟩, f0, f1, f2, f3⟩ := HAB1.out.facts
  go_wp2
  refine bodyPost_ret (v := .tuple #[.slice A n c, anV ⟨0, 0, g.getD 0, g.isSome⟩]) (by simp [results, Tryz.results103, go_sem, a0, a1, a2, a3]) rfl ?_
  exact retD_same H.out HF.out.1 (below_st4 HB1.out (by simp) _ _ _ _) HF.out.2

set_option maxRecDepth 100000 in
set_option maxHeartbeats 2000000 in
theorem Done_6 (A : Option Addr) (n c : Nat) (l : PL) (key val : Int) (w : World) (h : PS w A n c l) (hc : chk l = 0) :
    Calls Tryz.prog 103 #[.slice A n c, .agg #[I 6, I key, I val]] w (RetD A n (doL l 6 key val) (doA l 6 key) w) := by
  have hn : n ≤ 200 := by have := chk_len hc; rw [h.len] at this; exact this
  have hs := ((chk_zero l).1 hc).2
  have H := Lib.hid h
  have Hlen := Lib.hid h.len
  clear h
  obtain ⟨g, hg⟩ : ∃ g, getR key l = g := ⟨_, rfl⟩
  have HHV : Hid (hasV l key = g.getD 0) := by show _ = _; rw [hasV_eq hs, hg]
  have HHI : Hid (hasI l key = g.isSome) := by show _ = _; rw [hasI_eq hs, hg]
  have HBL := Lib.hid (blw_eq l key 0 hs)
  have HF : Hid (doL l 6 key val = l ∧ doA l 6 key = ⟨0, 0, cnt l key, true⟩) := by
    show _ ∧ _
    exact ⟨by simp [doL, hc, opB], doA_count hc key⟩
  clear hc hs hg
  go_enter Tryz.func103, Tryz.ntmps103
  go_wp2_with fail
  refine (Between_t _ _ _ _ (by decide)).mono ?_
  rintro e w' ⟨rfl, rfl⟩
  go_wp2_with fail
  refine (Has_any A n c l key _ (H.out.below (w0_below w 6 key val)) (by omega)).mono ?_
  rintro e w1 ⟨rfl, hb⟩
  rw [HHV.out, HHI.out]
  have hsz := w0_size w 6 key val
  have hab : AB w1 (w.heap.size + 1) := (w0_ab w 6 key val).below hb (by omega)
  have hob : OB w1 w.heap.size 6 key val := (w0_ob w 6 key val).below hb (by omega)
  obtain ⟨o0, o1, o2⟩ := hob.facts
  have HSZ1 : Hid (w.heap.size + 2 ≤ w1.heap.size) := by have := hb.size; show _ ≤ _; omega
  have HB1 := Lib.hid ((w0_below w 6 key val).trans (hb.mono (by omega)))
  have HAB1 := Lib.hid hab
  clear hb hab hob hsz
  go_wp2_with fail
  refine (Below_any A n c l key _ (H.out.below HB1.out) (by omega)).mono ?_
  rintro e w2 ⟨rfl, hb⟩
  rw [HBL.out]
  have HB2 := Lib.hid (below_next HB1.out hb)
  obtain ⟨⟨a0, a1, a2, a3⟩, f0, f1, f2, f3⟩ := (HAB1.out.below hb (by have := HSZ1.out; omega)).facts
  clear hb o0 o1 o2
  go_wp2
  refine bodyPost_ret (v := .tuple #[.slice A n c, anV ⟨0, 0, cnt l key, true⟩]) (by simp [results, Tryz.results103, go_sem, a0, a1, a2, a3]) rfl ?_
  exact retD_same H.out HF.out.1 (below_st4 HB2.out (by simp) _ _ _ _) HF.out.2

set_option maxRecDepth 100000 in
set_option maxHeartbeats 2000000 in
theorem Done_7 (A : Option Addr) (n c : Nat) (l : PL) (key val : Int) (w : World) (h : PS w A n c l) (hc : chk l = 0) :
    Calls Tryz.prog 103 #[.slice A n c, .agg #[I 7, I key, I val]] w (RetD A n (doL l 7 key val) (doA l 7 key) w) := by
  have hn : n ≤ 200 := by have := chk_len hc; rw [h.len] at this; exact this
  have hs := ((chk_zero l).1 hc).2
  have H := Lib.hid h
  have Hlen := Lib.hid h.len
  clear h
  obtain ⟨g, hg⟩ : ∃ g, getR key l = g := ⟨_, rfl⟩
  have HHV : Hid (hasV l key = g.getD 0) := by show _ = _; rw [hasV_eq hs, hg]
  have HHI : Hid (hasI l key = g.isSome) := by show _ = _; rw [hasI_eq hs, hg]
  have HF : Hid (doL l 7 key val = l ∧ doA l 7 key = pairA l key) := by
    show _ ∧ _
    exact ⟨by simp [doL, hc, opB], doA_nth hc key⟩
  clear hc hs hg
  go_enter Tryz.func103, Tryz.ntmps103
  go_wp2_with fail
  refine (Between_t _ _ _ _ (by decide)).mono ?_
  rintro e w' ⟨rfl, rfl⟩
  go_wp2_with fail
  refine (Has_any A n c l key _ (H.out.below (w0_below w 7 key val)) (by omega)).mono ?_
  rintro e w1 ⟨rfl, hb⟩
  rw [HHV.out, HHI.out]
  have hsz := w0_size w 7 key val
  have hab : AB w1 (w.heap.size + 1) := (w0_ab w 7 key val).below hb (by omega)
  have hob : OB w1 w.heap.size 7 key val := (w0_ob w 7 key val).below hb (by omega)
  obtain ⟨o0, o1, o2⟩ := hob.facts
  have HSZ1 : Hid (w.heap.size + 2 ≤ w1.heap.size) := by have := hb.size; show _ ≤ _; omega
  have HB1 := Lib.hid ((w0_below w 7 key val).trans (hb.mono (by omega)))
  have HAB1 := Lib.hid hab
  clear hb hab hob hsz
  go_wp2_with fail
  refine (nth_any A n c l key _ (H.out.below HB1.out) (by omega)).mono ?_
  rintro e w2 ⟨rfl, hb⟩
  have HB2 := Lib.hid (below_next HB1.out hb)
  obtain ⟨⟨a0, a1, a2, a3⟩, f0, f1, f2, f3⟩ := (HAB1.out.below hb (by have := HSZ1.out; omega)).facts
  clear hb o0 o1 o2
  go_wp2
  refine bodyPost_ret (v := .tuple #[.slice A n c, anV ⟨(pairA l key).e, (pairA l key).k, (pairA l key).v, (pairA l key).b⟩]) (by simp [results, Tryz.results103, go_sem, a0, a1, a2, a3]) rfl ?_
  exact retD_same H.out HF.out.1 (below_st4 HB2.out (by simp) _ _ _ _) HF.out.2

set_option maxRecDepth 100000 in
set_option maxHeartbeats 2000000 in
theorem Done_4 (A : Option Addr) (n c : Nat) (l : PL) (key val : Int) (w : World) (h : PS w A n c l) (hc : chk l = 0) (hk2 : keyB key = true) :
    Calls Tryz.prog 103 #[.slice A n c, .agg #[I 4, I key, I val]] w (RetD A n (doL l 4 key val) (doA l 4 key) w) := by
  have hn : n ≤ 200 := by have := chk_len hc; rw [h.len] at this; exact this
  have hs := ((chk_zero l).1 hc).2
  have H := Lib.hid h
  have Hlen := Lib.hid h.len
  clear h
  obtain ⟨g, hg⟩ : ∃ g, getR key l = g := ⟨_, rfl⟩
  have HHV : Hid (hasV l key = g.getD 0) := by show _ = _; rw [hasV_eq hs, hg]
  have HHI : Hid (hasI l key = g.isSome) := by show _ = _; rw [hasI_eq hs, hg]
  have HBK : Hid (btwB key 0 1000000 = true) := hk2
  have hk0 : 0 ≤ key := by simp [keyB] at hk2; omega
  have hk1 : key ≤ 1000000 := by simp [keyB] at hk2; omega
  have HBL := Lib.hid (blw_eq l (key + 1) 0 hs)
  have hcn : cnt l (key + 1) ≤ n := by have := cnt_le l (key + 1); rw [Hlen.out] at this; exact this
  have HF : Hid (doL l 4 key val = l ∧ doA l 4 key = pairA l (cnt l (key + 1))) := by
    show _ ∧ _
    exact ⟨by simp [doL, hc, opB, hk2], doA_next hc key hk2⟩
  clear hc hs hg hk2
  go_enter Tryz.func103, Tryz.ntmps103
  go_wp2_with fail
  refine (Between_t _ _ _ _ (by decide)).mono ?_
  rintro e w' ⟨rfl, rfl⟩
  go_wp2_with fail
  refine (Between_t _ _ _ _ HBK.out).mono ?_
  rintro e w' ⟨rfl, rfl⟩
  go_wp2_with fail
  refine (Has_any A n c l key _ (H.out.below (w0_below w 4 key val)) (by omega)).mono ?_
  rintro e w1 ⟨rfl, hb⟩
  rw [HHV.out, HHI.out]
  have hsz := w0_size w 4 key val
  have hab : AB w1 (w.heap.size + 1) := (w0_ab w 4 key val).below hb (by omega)
  have hob : OB w1 w.heap.size 4 key val := (w0_ob w 4 key val).below hb (by omega)
  obtain ⟨o0, o1, o2⟩ := hob.facts
  have HSZ1 : Hid (w.heap.size + 2 ≤ w1.heap.size) := by have := hb.size; show _ ≤ _; omega
  have HB1 := Lib.hid ((w0_below w 4 key val).trans (hb.mono (by omega)))
  have HAB1 := Lib.hid hab
  clear hb hab hob hsz
  go_wp2_with fail
  refine (Below_any A n c l (key + 1) _ (H.out.below HB1.out) (by omega)).mono ?_
  rintro e w2 ⟨rfl, hb⟩
  rw [HBL.out]
  have HB2 := Lib.hid (below_next HB1.out hb)
  have HAB2 := Lib.hid (HAB1.out.below hb (by have := HSZ1.out; omega))
  have HSZ2 : Hid (w.heap.size + 2 ≤ w2.heap.size) := by have := hb.size; have := HSZ1.out; show _ ≤ _; omega
  clear hb o0 o1 o2
  go_wp2_with fail
  refine (nth_any A n c l (cnt l (key + 1)) _ (H.out.below HB2.out) (by omega)).mono ?_
  rintro e w3 ⟨rfl, hb⟩
  have HB3 := Lib.hid (below_next HB2.out hb)
  obtain ⟨⟨a0, a1, a2, a3⟩, f0, f1, f2, f3⟩ := (HAB2.out.below hb (by have := HSZ2.out; omega)).facts
  clear hb
  go_wp2
  refine bodyPost_ret (v := .tuple #[.slice A n c, anV ⟨(pairA l (cnt l (key + 1))).e, (pairA l (cnt l (key + 1))).k, (pairA l (cnt l (key + 1))).v, (pairA l (cnt l (key + 1))).b⟩]) (by simp [results, Tryz.results103, go_sem, a0, a1, a2, a3]) rfl ?_
  exact retD_same H.out HF.out.1 (below_st4 HB3.out (by simp) _ _ _ _) HF.out.2

set_option maxRecDepth 100000 in
set_option maxHeartbeats 2000000 in
theorem Done_5 (A : Option Addr) (n c : Nat) (l : PL) (key val : Int) (w : World) (h : PS w A n c l) (hc : chk l = 0) (hk2 : keyB key = true) :
    Calls Tryz.prog 103 #[.slice A n c, .agg #[I 5, I key, I val]] w (RetD A n (doL l 5 key val) (doA l 5 key) w) := by
  have hn : n ≤ 200 := by have := chk_len hc; rw [h.len] at this; exact this
  have hs := ((chk_zero l).1 hc).2
  have H := Lib.hid h
  have Hlen := Lib.hid h.len
  clear h
  obtain ⟨g, hg⟩ : ∃ g, getR key l = g := ⟨_, rfl⟩
  have HHV : Hid (hasV l key = g.getD 0) := by show _ = _; rw [hasV_eq hs, hg]
  have HHI : Hid (hasI l key = g.isSome) := by show _ = _; rw [hasI_eq hs, hg]
  have HBK : Hid (btwB key 0 1000000 = true) := hk2
  have hk0 : 0 ≤ key := by simp [keyB] at hk2; omega
  have hk1 : key ≤ 1000000 := by simp [keyB] at hk2; omega
  have HBL := Lib.hid (blw_eq l key 0 hs)
  have hcn : cnt l key ≤ n := by have := cnt_le l key; rw [Hlen.out] at this; exact this
  have HF : Hid (doL l 5 key val = l ∧ doA l 5 key = pairA l (cnt l key - 1)) := by
    show _ ∧ _
    exact ⟨by simp [doL, hc, opB, hk2], doA_prev hc key hk2⟩
  clear hc hs hg hk2
  go_enter Tryz.func103, Tryz.ntmps103
  go_wp2_with fail
  refine (Between_t _ _ _ _ (by decide)).mono ?_
  rintro e w' ⟨rfl, rfl⟩
  go_wp2_with fail
  refine (Between_t _ _ _ _ HBK.out).mono ?_
  rintro e w' ⟨rfl, rfl⟩
  go_wp2_with fail
  refine (Has_any A n c l key _ (H.out.below (w0_below w 5 key val)) (by omega)).mono ?_
  rintro e w1 ⟨rfl, hb⟩
  rw [HHV.out, HHI.out]
  have hsz := w0_size w 5 key val
  have hab : AB w1 (w.heap.size + 1) := (w0_ab w 5 key val).below hb (by omega)
  have hob : OB w1 w.heap.size 5 key val := (w0_ob w 5 key val).below hb (by omega)
  obtain ⟨o0, o1, o2⟩ := hob.facts
  have HSZ1 : Hid (w.heap.size + 2 ≤ w1.heap.size) := by have := hb.size; show _ ≤ _; omega
  have HB1 := Lib.hid ((w0_below w 5 key val).trans (hb.mono (by omega)))
  have HAB1 := Lib.hid hab
  clear hb hab hob hsz
  go_wp2_with fail
  refine (Below_any A n c l key _ (H.out.below HB1.out) (by omega)).mono ?_
  rintro e w2 ⟨rfl, hb⟩
  rw [HBL.out]
  have HB2 := Lib.hid (below_next HB1.out hb)
  have HAB2 := Lib.hid (HAB1.out.below hb (by have := HSZ1.out; omega))
  have HSZ2 : Hid (w.heap.size + 2 ≤ w2.heap.size) := by have := hb.size; have := HSZ1.out; show _ ≤ _; omega
  clear hb o0 o1 o2
  go_wp2_with fail
  refine (nth_any A n c l (cnt l key - 1) _ (H.out.below HB2.out) (by omega)).mono ?_
  rintro e w3 ⟨rfl, hb⟩
  have HB3 := Lib.hid (below_next HB2.out hb)
  obtain ⟨⟨a0, a1, a2, a3⟩, f0, f1, f2, f3⟩ := (HAB2.out.below hb (by have := HSZ2.out; omega)).facts
  clear hb
  go_wp2
  refine bodyPost_ret (v := .tuple #[.slice A n c, anV ⟨(pairA l (cnt l key - 1)).e, (pairA l (cnt l key - 1)).k, (pairA l (cnt l key - 1)).v, (pairA l (cnt l key - 1)).b⟩]) (by simp [results, Tryz.results103, go_sem, a0, a1, a2, a3]) rfl ?_
  exact retD_same H.out HF.out.1 (below_st4 HB3.out (by simp) _ _ _ _) HF.out.2

set_option maxRecDepth 100000 in
set_option maxHeartbeats 2000000 in
theorem Done_3 (A : Option Addr) (n c : Nat) (l : PL) (key val : Int) (w : World) (h : PS w A n c l) (hc : chk l = 0) (hk2 : keyB key = true) :
    Calls Tryz.prog 103 #[.slice A n c, .agg #[I 3, I key, I val]] w (RetD A n (doL l 3 key val) (doA l 3 key) w) := by
  have hn : n ≤ 200 := by have := chk_len hc; rw [h.len] at this; exact this
  have hs := ((chk_zero l).1 hc).2
  have H := Lib.hid h
  have Hlen := Lib.hid h.len
  clear h
  obtain ⟨g, hg⟩ : ∃ g, getR key l = g := ⟨_, rfl⟩
  have HHV : Hid (hasV l key = g.getD 0) := by show _ = _; rw [hasV_eq hs, hg]
  have HHI : Hid (hasI l key = g.isSome) := by show _ = _; rw [hasI_eq hs, hg]
  have HBK : Hid (btwB key 0 1000000 = true) := hk2
  have hk0 : 0 ≤ key := by simp [keyB] at hk2; omega
  have hk1 : key ≤ 1000000 := by simp [keyB] at hk2; omega
  have HF : Hid (doL l 3 key val = wo l key ∧ doA l 3 key = ⟨0, 0, g.getD 0, g.isSome⟩) := by
    show _ ∧ _
    refine ⟨by rw [doL_cut hc, hk2, if_pos rfl, cutL_eq, wo_eq l key 0 hs], ?_⟩
    rw [doA_cut hc, hk2, if_pos rfl, getA_eq, hg]
    cases g <;> rfl
  clear hc hs hg hk2
  go_enter Tryz.func103, Tryz.ntmps103
  go_wp2_with fail
  refine (Between_t _ _ _ _ (by decide)).mono ?_
  rintro e w' ⟨rfl, rfl⟩
  go_wp2_with fail
  refine (Between_t _ _ _ _ HBK.out).mono ?_
  rintro e w' ⟨rfl, rfl⟩
  go_wp2_with fail
  refine (Has_any A n c l key _ (H.out.below (w0_below w 3 key val)) (by omega)).mono ?_
  rintro e w1 ⟨rfl, hb⟩
  rw [HHV.out, HHI.out]
  have hsz := w0_size w 3 key val
  have hab : AB w1 (w.heap.size + 1) := (w0_ab w 3 key val).below hb (by omega)
  have hob : OB w1 w.heap.size 3 key val := (w0_ob w 3 key val).below hb (by omega)
  obtain ⟨o0, o1, o2⟩ := hob.facts
  have HSZ1 : Hid (w.heap.size + 2 ≤ w1.heap.size) := by have := hb.size; show _ ≤ _; omega
  have HB1 := Lib.hid ((w0_below w 3 key val).trans (hb.mono (by omega)))
  have HAB1 := Lib.hid hab
  clear hb hab hob hsz
  go_wp2_with fail
  refine (Without_any A n c l key _ (H.out.below HB1.out) (by omega)).mono ?_
  rintro e w2 ⟨v2, rfl, hown, hb⟩
  obtain ⟨A2, c2, rfl, hps, hfr⟩ := hown.ps
  have HB2 := Lib.hid (below_next HB1.out hb)
  have HFR : Hid (∀ ad, A2 = some ad → w.heap.size + 2 ≤ ad.block) := fun ad h => by have := hfr ad h; have := HSZ1.out; omega
  have HPS := Lib.hid hps
  obtain ⟨⟨a0, a1, a2, a3⟩, f0, f1, f2, f3⟩ := (HAB1.out.below hb (by have := HSZ1.out; omega)).facts
  generalize (wo l key).length = n2 at *
  clear hb hps hfr hown o0 o1 o2
  go_wp2
  refine bodyPost_ret (v := .tuple #[.slice A2 n2 c2, anV ⟨0, 0, g.getD 0, g.isSome⟩]) (by simp [results, Tryz.results103, go_sem, a0, a1, a2, a3]) rfl ?_
  rw [HF.out.1]
  exact retD_new (HPS.out.st4 (fun ad h => by have := HFR.out ad h; omega) _ _ _ _) (below_st4 HB2.out (by simp) _ _ _ _) HF.out.2 (fun ad h => by have := HFR.out ad h; omega)

set_option maxRecDepth 100000 in
set_option maxHeartbeats 2000000 in
theorem Done_1full (A : Option Addr) (n c : Nat) (l : PL) (key val : Int) (w : World) (h : PS w A n c l) (hc : chk l = 0) (hk2 : keyB key = true) (hg : getR key l = none) (hfull : n = 200) :
    Calls Tryz.prog 103 #[.slice A n c, .agg #[I 1, I key, I val]] w (RetD A n (doL l 1 key val) (doA l 1 key) w) := by
  have hn : n ≤ 200 := by have := chk_len hc; rw [h.len] at this; exact this
  have hs := ((chk_zero l).1 hc).2
  have H := Lib.hid h
  have Hlen := Lib.hid h.len
  clear h
  have HHV : Hid (hasV l key = 0) := by show _ = _; rw [hasV_eq hs, hg]; rfl
  have HHI : Hid (hasI l key = false) := by show _ = _; rw [hasI_eq hs, hg]; rfl
  have HBK : Hid (btwB key 0 1000000 = true) := hk2
  have hk0 : 0 ≤ key := by simp [keyB] at hk2; omega
  have hk1 : key ≤ 1000000 := by simp [keyB] at hk2; omega
  have HF : Hid (doL l 1 key val = l ∧ doA l 1 key = ⟨2, 0, 0, false⟩) := by
    show _ ∧ _
    rw [doL_put hc, doA_put hc, hk2, if_pos rfl, if_pos rfl, putL_eq, putA_eq, hg, Hlen.out]
    simp [hfull]
  have hne : ((n : Int) == 200) = true := by simp [hfull]
  clear hc hs hg hk2 hfull
  go_enter Tryz.func103, Tryz.ntmps103
  go_wp2_with fail
  refine (Between_t _ _ _ _ (by decide)).mono ?_
  rintro e w' ⟨rfl, rfl⟩
  go_wp2_with fail
  refine (Between_t _ _ _ _ HBK.out).mono ?_
  rintro e w' ⟨rfl, rfl⟩
  go_wp2_with fail
  refine (Has_any A n c l key _ (H.out.below (w0_below w 1 key val)) (by omega)).mono ?_
  rintro e w1 ⟨rfl, hb⟩
  rw [HHV.out, HHI.out]
  have hsz := w0_size w 1 key val
  have hab : AB w1 (w.heap.size + 1) := (w0_ab w 1 key val).below hb (by omega)
  have hob : OB w1 w.heap.size 1 key val := (w0_ob w 1 key val).below hb (by omega)
  obtain ⟨o0, o1, o2⟩ := hob.facts
  have HSZ1 : Hid (w.heap.size + 2 ≤ w1.heap.size) := by have := hb.size; show _ ≤ _; omega
  have HB1 := Lib.hid ((w0_below w 1 key val).trans (hb.mono (by omega)))
  have HAB1 := Lib.hid hab
  clear hb hab hob hsz
  obtain ⟨⟨a0, a1, a2, a3⟩, f0, f1, f2, f3⟩ := HAB1.out.facts
  go_wp2
  refine bodyPost_ret (v := .tuple #[.slice A n c, anV ⟨2, 0, 0, false⟩]) (by simp [results, Tryz.results103, go_sem, a0, a1, a2, a3]) rfl ?_
  exact retD_same H.out HF.out.1 (below_st4 HB1.out (by simp) _ _ _ _) HF.out.2

set_option maxRecDepth 100000 in
set_option maxHeartbeats 2000000 in
theorem Done_1 (A : Option Addr) (n c : Nat) (l : PL) (key val : Int) (w : World) (h : PS w A n c l) (hc : chk l = 0) (hk2 : keyB key = true) (hr : (getR key l).isSome = true ∨ n < 200) :
    Calls Tryz.prog 103 #[.slice A n c, .agg #[I 1, I key, I val]] w (RetD A n (doL l 1 key val) (doA l 1 key) w) := by
  have hn : n ≤ 200 := by have := chk_len hc; rw [h.len] at this; exact this
  have hs := ((chk_zero l).1 hc).2
  have H := Lib.hid h
  have Hlen := Lib.hid h.len
  clear h
  obtain ⟨g, hg⟩ : ∃ g, getR key l = g := ⟨_, rfl⟩
  have HHV : Hid (hasV l key = g.getD 0) := by show _ = _; rw [hasV_eq hs, hg]
  have HHI : Hid (hasI l key = g.isSome) := by show _ = _; rw [hasI_eq hs, hg]
  have HBK : Hid (btwB key 0 1000000 = true) := hk2
  have hk0 : 0 ≤ key := by simp [keyB] at hk2; omega
  have hk1 : key ≤ 1000000 := by simp [keyB] at hk2; omega
  have HF : Hid (doL l 1 key val = wiL l key val ∧ doA l 1 key = ⟨0, 0, 0, g.isSome⟩) := by
    show _ ∧ _
    have hr' : (getR key l).isSome ∨ l.length < 200 := by rw [Hlen.out]; exact hr
    rw [doL_put hc, doA_put hc, hk2, if_pos rfl, if_pos rfl, putL_eq, putA_eq, if_pos hr', wiL_eq hs]
    refine ⟨rfl, ?_⟩
    cases hgs : g with
    | none =>
      have h200 : n < 200 := by
        rcases hr with h1 | h1
        · rw [hg, hgs] at h1; cases h1
        · exact h1
      rw [hg, hgs, Hlen.out, if_neg (by simp), if_neg (by omega)]
      rfl
    | some x => rw [hg, hgs]; rfl
  rw [hg] at hr
  clear hc hs hg hk2
  go_enter Tryz.func103, Tryz.ntmps103
  go_wp2_with fail
  refine (Between_t _ _ _ _ (by decide)).mono ?_
  rintro e w' ⟨rfl, rfl⟩
  go_wp2_with fail
  refine (Between_t _ _ _ _ HBK.out).mono ?_
  rintro e w' ⟨rfl, rfl⟩
  go_wp2_with fail
  refine (Has_any A n c l key _ (H.out.below (w0_below w 1 key val)) (by omega)).mono ?_
  rintro e w1 ⟨rfl, hb⟩
  rw [HHV.out, HHI.out]
  have hsz := w0_size w 1 key val
  have hab : AB w1 (w.heap.size + 1) := (w0_ab w 1 key val).below hb (by omega)
  have hob : OB w1 w.heap.size 1 key val := (w0_ob w 1 key val).below hb (by omega)
  obtain ⟨o0, o1, o2⟩ := hob.facts
  have HSZ1 : Hid (w.heap.size + 2 ≤ w1.heap.size) := by have := hb.size; show _ ≤ _; omega
  have HB1 := Lib.hid ((w0_below w 1 key val).trans (hb.mono (by omega)))
  have HAB1 := Lib.hid hab
  clear hb hab hob hsz
  have hdec : (g.isSome = true) ∨ (g.isSome = false ∧ ((n : Int) == 200) = false) := by
    cases hgs : g.isSome with
    | true => exact .inl rfl
    | false =>
      rw [hgs] at hr
      have : n < 200 := by simpa using hr
      exact .inr ⟨rfl, by simp; omega⟩
  clear hr
  rcases hdec with hgs | ⟨hgs, hne⟩
  all_goals
    rw [hgs]
    go_wp2_with fail
    refine (With_any A n c l key val _ (H.out.below HB1.out) (by omega)).mono ?_
    rintro e w2 ⟨v2, rfl, hown, hb⟩
    obtain ⟨A2, c2, rfl, hps, hfr⟩ := hown.ps
    have HB2 := Lib.hid (below_next HB1.out hb)
    have HFR : Hid (∀ ad, A2 = some ad → w.heap.size + 2 ≤ ad.block) := fun ad h => by have := hfr ad h; have := HSZ1.out; omega
    have HPS := Lib.hid hps
    obtain ⟨⟨a0, a1, a2, a3⟩, f0, f1, f2, f3⟩ := (HAB1.out.below hb (by have := HSZ1.out; omega)).facts
    generalize (wiL l key val).length = n2 at *
    clear hb hps hfr hown o0 o1 o2
    go_wp2
    refine bodyPost_ret (v := .tuple #[.slice A2 n2 c2, anV ⟨0, 0, 0, _⟩]) (by simp [results, Tryz.results103, go_sem, a0, a1, a2, a3]; rfl) rfl ?_
    rw [HF.out.1]
    exact retD_new (HPS.out.st4 (fun ad h => by have := HFR.out ad h; omega) _ _ _ _) (below_st4 HB2.out (by simp) _ _ _ _) (by rw [HF.out.2, hgs]) (fun ad h => by have := HFR.out ad h; omega)

theorem Done_any (A : Option Addr) (n c : Nat) (l : PL) (kind key val : Int) (w : World) (h : PS w A n c l) (hc : chk l = 0) :
    Calls Tryz.prog 103 #[.slice A n c, .agg #[I kind, I key, I val]] w (RetD A n (doL l kind key val) (doA l kind key) w) := by
  have hn : n ≤ 200 := by have := chk_len hc; rw [h.len] at this; exact this
  cases hk2 : keyB key with
  | false =>
    rcases kinds kind with rfl | rfl | rfl | rfl | rfl | rfl | rfl | h8
    · exact Done_key A n c l 1 key val w h hc (by omega) hk2
    · exact Done_key A n c l 2 key val w h hc (by omega) hk2
    · exact Done_key A n c l 3 key val w h hc (by omega) hk2
    · exact Done_key A n c l 4 key val w h hc (by omega) hk2
    · exact Done_key A n c l 5 key val w h hc (by omega) hk2
    · exact Done_6 A n c l key val w h hc
    · exact Done_7 A n c l key val w h hc
    · exact Done_kind A n c l kind key val w h hc h8
  | true =>
    rcases kinds kind with rfl | rfl | rfl | rfl | rfl | rfl | rfl | h8
    · cases hg : getR key l with
      | some x => exact Done_1 A n c l key val w h hc hk2 (.inl (by rw [hg]; rfl))
      | none =>
        rcases Nat.lt_or_ge n 200 with h1 | h1
        · exact Done_1 A n c l key val w h hc hk2 (.inr h1)
        · exact Done_1full A n c l key val w h hc hk2 hg (by omega)
    · exact Done_2 A n c l key val w h hc hk2
    · exact Done_3 A n c l key val w h hc hk2
    · exact Done_4 A n c l key val w h hc hk2
    · exact Done_5 A n c l key val w h hc hk2
    · exact Done_6 A n c l key val w h hc
    · exact Done_7 A n c l key val w h hc
    · exact Done_kind A n c l kind key val w h hc h8

end Go.Proofs.YtpnjnedfcdppaaaGreatDoor
