/-
  Joined texts: YtpnjnedfcdppaaaGreatDoorOwn, YtpnjnedfcdppaaaGreatDoorDo, YtpnjnedfcdppaaaGreatDoorPut, YtpnjnedfcdppaaaGreatDoorCut, YtpnjnedfcdppaaaGreatDoorLook.
-/
import Derived.Test.YtpnjnedfcdppaaaGreatDoorEqTAll
import Derived.Test.YtpnjnedfcdppaaaGreatDoorCopy
import Derived.StillTailTactics
import Derived.Deep.RegionHeld3
/-
  copyOf, pairAt, get, isOp.
-/
namespace Go.Proofs.YtpnjnedfcdppaaaGreatDoor
open Go.RowKit

theorem pair_info : (Tryz.prog.info? 48).map (fun i => (i.zero, i.size, i.bytes)) = some (some (.agg #[I 0, I 0]), 2, 16) := by kernel_rfl
theorem pair_size : (Tryz.prog.info? 48).map (·.size) = some 2 := by kernel_rfl

theorem cop_all (n : Nat) (l : PL) (h : l.length = n) : cop (List.replicate n (0, 0)) 0 l n = l := by
  simp [cop, ← h]

set_option maxHeartbeats 400000 in
theorem copyOf_any (A : Option Addr) (n c : Nat) (l : PL) (w : World) (h : PS w A n c l) (hn : n ≤ 1000000) :
    Calls Tryz.prog 123 #[.slice A n c] w fun e w' => e = .returned (.slice (some ⟨w.heap.size, 0, none⟩) n n) ∧ PB w' w.heap.size 48 l ∧ Below w.heap.size w w' := by
  have hmk := fun W => run_makeP (P := Tryz.prog) 33 48 Tryz.underlying33 pair_info n hn W
  have H := Lib.hid h
  clear h
  have hb : Below w.heap.size w (w.alloc (.cells (flat (List.replicate n (0, 0))).toArray 48)) := (Below.refl _ _).alloc (Nat.le_refl _) _
  go_enter Tryz.func123, Tryz.ntmps123
  go_wp2_with (with_reducible refine wpList_copyP rfl (.tmp 7) (.tmp 8) 33 rfl 48 Tryz.underlying33 pair_size (some ⟨w.heap.size, 0, none⟩) A n n n c rfl rfl w.heap.size 0 48 (List.replicate n (0, 0)) l (PB.new _ _ _) ((H.out.below hb).src) (by simp) (fun _ => rfl) ?_)
  intro w1 hp hb1
  go_wp2
  go_ret
  refine ⟨rfl, ?_, hb.trans (hb1 _ (Nat.le_refl _))⟩
  rw [cop_all n l H.out.len] at hp
  exact hp

def pairA (l : PL) (p : Int) : An := if 0 ≤ p ∧ p < l.length then ⟨0, (l[p.toNat]?.getD (0, 0)).1, (l[p.toNat]?.getD (0, 0)).2, true⟩ else an0
theorem pairA_in (l : PL) (k : Nat) (h : k < l.length) : pairA l k = ⟨0, l[k].1, l[k].2, true⟩ := by
  unfold pairA
  rw [if_pos (by omega)]
  simp [List.getElem?_eq_getElem h]

set_option maxHeartbeats 400000 in
theorem pairAt_any (A : Option Addr) (n c : Nat) (l : PL) (p : Int) (w : World) (h : PS w A n c l) (hn : n ≤ 1000000) :
    Calls Tryz.prog 190 #[.slice A n c, I p] w fun e w' => e = .returned (anV (pairA l p)) ∧ Below w.heap.size w w' := by
  have H := Lib.hid h
  have Hlen := Lib.hid h.len
  clear h
  by_cases h0 : p < 0
  · have HF : Hid (pairA l p = an0) := by show pairA l p = an0; unfold pairA; rw [if_neg (by omega)]
    go_enter Tryz.func190, Tryz.ntmps190
    go_wp2
    exact bodyPost_ret (v := anV an0) (by simp [results, Tryz.results190, go_sem]) rfl ⟨by rw [HF.out], (Below.refl _ _).alloc (Nat.le_refl _) _⟩
  · by_cases h1 : p < n
    · obtain ⟨k, rfl⟩ := Int.eq_ofNat_of_zero_le (show 0 ≤ p by omega)
      have hlt : k < n := by omega
      have hkl : k < l.length := by have := Hlen.out; omega
      obtain ⟨b, off, rfl, hb, hc⟩ := H.out.at_ (by omega)
      have hc0 : w.cell? ⟨b, off + k * 2, none⟩ = some (I l[k].1) := (hc k hlt).1
      have hc1 : w.cell? ⟨b, off + k * 2 + 1, none⟩ = some (I l[k].2) := (hc k hlt).2
      have HF := Lib.hid (pairA_in l k hkl)
      clear hc
      go_enter Tryz.func190, Tryz.ntmps190
      go_wp2
      go_region
      all_goals go_wp2
      exact bodyPost_ret (v := anV ⟨0, l[k].1, l[k].2, true⟩) (by simp [results, Tryz.results190, go_sem]) rfl ⟨by rw [HF.out], ((Below.refl _ _).alloc (Nat.le_refl _) _).drew⟩
    · have HF : Hid (pairA l p = an0) := by show pairA l p = an0; unfold pairA; rw [if_neg (by have := Hlen.out; omega)]
      go_enter Tryz.func190, Tryz.ntmps190
      go_wp2
      exact bodyPost_ret (v := anV an0) (by simp [results, Tryz.results190, go_sem]) rfl ⟨by rw [HF.out], (Below.refl _ _).alloc (Nat.le_refl _) _⟩

theorem hasAt_t (A : Option Addr) (n c p : Nat) (l : PL) (key : Int) (w : World) (h : PS w A n c l) (hn : n ≤ 1000000) (hp : p ≤ 1000000) (hh : hasB l p key = true) :
    Calls Tryz.prog 188 #[.slice A n c, I p, I key] w fun e w' => e = .returned (.bool true) ∧ w = w' :=
  (hasAt_any A n c p l key w h hn hp).mono fun _ _ ⟨he, hw⟩ => ⟨by rw [he, hh], hw⟩
theorem hasAt_f (A : Option Addr) (n c p : Nat) (l : PL) (key : Int) (w : World) (h : PS w A n c l) (hn : n ≤ 1000000) (hp : p ≤ 1000000) (hh : hasB l p key = false) :
    Calls Tryz.prog 188 #[.slice A n c, I p, I key] w fun e w' => e = .returned (.bool false) ∧ w = w' :=
  (hasAt_any A n c p l key w h hn hp).mono fun _ _ ⟨he, hw⟩ => ⟨by rw [he, hh], hw⟩
theorem hasB_lt {l : PL} {p : Nat} {key : Int} (h : hasB l p key = true) : p < l.length := by
  unfold hasB at h
  split at h
  · rename_i q hq; exact (List.getElem?_eq_some_iff.1 hq).1
  · cases h

def getA (l : PL) (key : Int) : An := if hasB l (cnt l key) key then ⟨0, 0, (l[cnt l key]?.getD (0, 0)).2, true⟩ else an0

set_option maxHeartbeats 400000 in
theorem get_any (A : Option Addr) (n c : Nat) (l : PL) (key : Int) (w : World) (h : PS w A n c l) (hn : n ≤ 1000000) :
    Calls Tryz.prog 189 #[.slice A n c, I key] w fun e w' => e = .returned (anV (getA l key)) ∧ Below w.heap.size w w' := by
  have H := Lib.hid h
  have Hlen := Lib.hid h.len
  clear h
  have hcn : cnt l key ≤ n := by have := cnt_le l key; rw [Hlen.out] at this; exact this
  cases hh : hasB l (cnt l key) key with
  | true =>
    have hkl := hasB_lt hh
    have hlt : cnt l key < n := by have := Hlen.out; omega
    have HF : Hid (getA l key = ⟨0, 0, l[cnt l key].2, true⟩) := by show getA l key = _; simp [getA, hh, List.getElem?_eq_getElem hkl]
    have HH := Lib.hid hh
    obtain ⟨b, off, rfl, hb, hc⟩ := H.out.at_ (by omega)
    have hc1 : w.cell? ⟨b, off + cnt l key * 2 + 1, none⟩ = some (I l[cnt l key].2) := (hc _ hlt).2
    clear hh hc
    go_enter Tryz.func189, Tryz.ntmps189
    go_wp2_with fail
    refine (countBelow_any _ n c l key _ (H.out.alloc _) hn).mono ?_
    rintro e w' ⟨rfl, rfl⟩
    go_wp2_with fail
    refine (hasAt_t _ n c (cnt l key) l key _ (H.out.alloc _) hn (by omega) HH.out).mono ?_
    rintro e w' ⟨rfl, rfl⟩
    go_wp2
    exact bodyPost_ret (v := anV ⟨0, 0, l[cnt l key].2, true⟩) (by simp [results, Tryz.results189, go_sem]) rfl ⟨by rw [HF.out], (Below.refl _ _).alloc (Nat.le_refl _) _⟩
  | false =>
    have HF : Hid (getA l key = an0) := by show getA l key = _; simp [getA, hh]
    have HH := Lib.hid hh
    clear hh
    go_enter Tryz.func189, Tryz.ntmps189
    go_wp2_with fail
    refine (countBelow_any _ n c l key _ (H.out.alloc _) hn).mono ?_
    rintro e w' ⟨rfl, rfl⟩
    go_wp2_with fail
    refine (hasAt_f _ n c (cnt l key) l key _ (H.out.alloc _) hn (by omega) HH.out).mono ?_
    rintro e w' ⟨rfl, rfl⟩
    go_wp2
    exact bodyPost_ret (v := anV an0) (by simp [results, Tryz.results189, go_sem]) rfl ⟨by rw [HF.out], (Below.refl _ _).alloc (Nat.le_refl _) _⟩

def opB (kind key : Int) : Bool := if 1 ≤ kind ∧ kind ≤ 5 then keyB key else decide (kind = 6 ∨ kind = 7)
theorem kinds (kind : Int) : kind = 1 ∨ kind = 2 ∨ kind = 3 ∨ kind = 4 ∨ kind = 5 ∨ kind = 6 ∨ kind = 7 ∨ (kind < 1 ∨ 7 < kind) := by omega

set_option maxHeartbeats 1000000 in
theorem isOp_any (kind key val : Int) (w : World) :
    Calls Tryz.prog 122 #[.agg #[I kind, I key, I val]] w fun e w' => e = .returned (.bool (opB kind key)) ∧ Below w.heap.size w w' := by
  rcases kinds kind with rfl | rfl | rfl | rfl | rfl | rfl | rfl | h
  iterate 5
    · go_enter Tryz.func122, Tryz.ntmps122
      go_wp2_with (go_at_call 186; refine (isKey_any _ _).mono ?_; rintro e w' ⟨rfl, rfl⟩)
      go_ret
      exact ⟨rfl, (Below.refl _ _).alloc (Nat.le_refl _) _⟩
  iterate 2
    · go_enter Tryz.func122, Tryz.ntmps122
      go_wp2
      go_ret
      exact ⟨rfl, (Below.refl _ _).alloc (Nat.le_refl _) _⟩
  · have HF : Hid (opB kind key = false) := by
      show opB kind key = false
      unfold opB
      rw [if_neg (by omega)]
      exact decide_eq_false (by omega)
    have h1 : (kind == 1) = false := beq_eq_false_iff_ne.2 (by omega)
    have h2 : (kind == 2) = false := beq_eq_false_iff_ne.2 (by omega)
    have h3 : (kind == 3) = false := beq_eq_false_iff_ne.2 (by omega)
    have h4 : (kind == 4) = false := beq_eq_false_iff_ne.2 (by omega)
    have h5 : (kind == 5) = false := beq_eq_false_iff_ne.2 (by omega)
    have h6 : (kind == 6) = false := beq_eq_false_iff_ne.2 (by omega)
    have h7 : (kind == 7) = false := beq_eq_false_iff_ne.2 (by omega)
    clear h
    go_enter Tryz.func122, Tryz.ntmps122
    go_wp2
    go_ret
    exact ⟨by rw [HF.out]; rfl, (Below.refl _ _).alloc (Nat.le_refl _) _⟩

end Go.Proofs.YtpnjnedfcdppaaaGreatDoor

/-
  put, cut, look, Do.
-/
namespace Go.Proofs.YtpnjnedfcdppaaaGreatDoor
open Go.RowKit

def RetPA (l : PL) (a : An) (w : World) (e : Ending) (w' : World) : Prop := ∃ A n c, e = .returned (.tuple #[.slice A n c, anV a]) ∧ PS w' A n c l ∧ Below w.heap.size w w' ∧ ∀ ad, A = some ad → w.heap.size ≤ ad.block

abbrev ansO : Obj := .cells #[I 0, I 0, I 0, .bool false] 51
def AB (w : World) (g : Nat) : Prop := w.heap[g]? = some (.cells #[I 0, I 0, I 0, .bool false] 51 (0, 0))
theorem AB.new (w : World) : AB (w.alloc ansO) w.heap.size := heap_alloc_new w _
theorem AB.below {w w' : World} {g B : Nat} (h : AB w g) (hb : Below B w w') (hg : g < B) : AB w' g := (hb.block g hg).trans h
theorem AB.far {w : World} {g : Nat} (h : AB w g) {p : Addr} (hp : p.block ≠ g) (u : Value) : AB (w.setCell p u) g := (Below.heap_setCell w p u g (fun e => hp e.symm)).trans h
theorem AB.facts {w : World} {g : Nat} (h : AB w g) : (w.cell? ⟨g, 0, none⟩ = some (I 0) ∧ w.cell? ⟨g, 1, none⟩ = some (I 0) ∧ w.cell? ⟨g, 2, none⟩ = some (I 0) ∧ w.cell? ⟨g, 3, none⟩ = some (.bool false)) ∧
    (w.frozen? ⟨g, 0, none⟩ = false ∧ w.frozen? ⟨g, 1, none⟩ = false ∧ w.frozen? ⟨g, 2, none⟩ = false ∧ w.frozen? ⟨g, 3, none⟩ = false) := by
  unfold AB at h
  refine ⟨⟨?_, ?_, ?_, ?_⟩, ?_, ?_, ?_, ?_⟩ <;> simp [World.cell?, World.frozen?, h]

abbrev st4 (W : World) (g : Nat) (e k v : Int) (b : Bool) : World := (((W.setCell ⟨g, 0, none⟩ (I e)).setCell ⟨g, 1, none⟩ (I k)).setCell ⟨g, 2, none⟩ (I v)).setCell ⟨g, 3, none⟩ (.bool b)
theorem below_st4 {B g : Nat} {w W : World} (h : Below B w W) (hg : B ≤ g) (e k v : Int) (b : Bool) : Below B w (st4 W g e k v b) := (((h.setCell hg _).setCell hg _).setCell hg _).setCell hg _
theorem PB.st4 {w : World} {g t : Nat} {L : PL} (h : PB w g t L) {g' : Nat} (hp : g' ≠ g) (e k v : Int) (b : Bool) : PB (st4 w g' e k v b) g t L := (((h.far (p := ⟨g', 0, none⟩) hp _).far (p := ⟨g', 1, none⟩) hp _).far (p := ⟨g', 2, none⟩) hp _).far (p := ⟨g', 3, none⟩) hp _

theorem PS.st4 {w : World} {n c g : Nat} {A : Option Addr} {l : PL} (h : PS w A n c l) (hA : ∀ ad, A = some ad → ad.block ≠ g) (e k v : Int) (b : Bool) : PS (st4 w g e k v b) A n c l :=
  (((h.far (p := ⟨g, 0, none⟩) hA _).far (p := ⟨g, 1, none⟩) hA _).far (p := ⟨g, 2, none⟩) hA _).far (p := ⟨g, 3, none⟩) hA _
theorem retPA_mk {l : PL} {a : An} {w W : World} {A : Option Addr} {n c : Nat} {e k v : Int} {b : Bool} (h : PS W A n c l) (hb : Below w.heap.size w W) (ha : a = ⟨e, k, v, b⟩) (hA : ∀ ad, A = some ad → w.heap.size ≤ ad.block) : RetPA l a w (.returned (.tuple #[.slice A n c, anV ⟨e, k, v, b⟩])) W := by
  subst ha
  exact ⟨A, n, c, rfl, h, hb, hA⟩

def putL (l : PL) (key v : Int) : PL := if hasB l (cnt l key) key then l.set (cnt l key) (key, v) else if 200 ≤ l.length then l else l.take (cnt l key) ++ (key, v) :: l.drop (cnt l key)
def putA (l : PL) (key : Int) : An := if hasB l (cnt l key) key then ⟨0, 0, 0, true⟩ else if 200 ≤ l.length then ⟨2, 0, 0, false⟩ else an0

theorem hasB_key {l : PL} {p : Nat} {key : Int} (h : hasB l p key = true) : (l[p]'(hasB_lt h)).1 = key := by
  have hl := hasB_lt h
  unfold hasB at h
  rw [List.getElem?_eq_getElem hl] at h
  simpa using h

set_option maxHeartbeats 1000000 in
theorem put_has (A : Option Addr) (n c : Nat) (l : PL) (key v : Int) (w : World) (h : PS w A n c l) (hn : n ≤ 200) (hh : hasB l (cnt l key) key = true) :
    Calls Tryz.prog 124 #[.slice A n c, I key, I v] w (RetPA (putL l key v) (putA l key) w) := by
  have H := Lib.hid h
  have Hlen := Lib.hid h.len
  clear h
  have hkl := hasB_lt hh
  have hlt : cnt l key < n := by have := Hlen.out; omega
  have HF : Hid (putL l key v = l.set (cnt l key) (key, v) ∧ putA l key = ⟨0, 0, 0, true⟩) := by show _ ∧ _; simp [putL, putA, hh]
  have HK : Hid (l[cnt l key].1 = key) := hasB_key hh
  have HH := Lib.hid hh
  clear hh
  go_enter Tryz.func124, Tryz.ntmps124
  go_wp2_with fail
  refine (countBelow_any _ n c l key _ (H.out.alloc _) (by omega)).mono ?_
  rintro e w' ⟨rfl, rfl⟩
  go_wp2_with fail
  refine (hasAt_t _ n c (cnt l key) l key _ (H.out.alloc _) (by omega) (by omega) HH.out).mono ?_
  rintro e w' ⟨rfl, rfl⟩
  go_wp2_with fail
  refine (copyOf_any _ n c l _ (H.out.alloc _) (by omega)).mono ?_
  rintro e w2 ⟨rfl, hpb, hb⟩
  have hab : AB w2 w.heap.size := (AB.new w).below hb (by simp)
  obtain ⟨⟨a0, a1, a2, a3⟩, f0, f1, f2, f3⟩ := hab.facts
  have hbw : Below w.heap.size w w2 := ((Below.refl _ _).alloc (Nat.le_refl _) _).trans (hb.mono (by simp))
  have hps := hpb.set1 (cnt l key) v hkl
  have hpc : w2.cell? ⟨w.heap.size + 1, cnt l key * 2 + 1, none⟩ = some (I l[cnt l key].2) := by
    have := hpb.cell (cnt l key * 2 + 1)
    rw [(flat_at l _ hkl).2] at this
    simpa using this
  have hpf : w2.frozen? ⟨w.heap.size + 1, cnt l key * 2 + 1, none⟩ = false := by simpa using hpb.frozen (cnt l key * 2 + 1)
  have HP : Hid (PB (w2.setCell ⟨w.heap.size + 1, cnt l key * 2 + 1, none⟩ (I v)) (w.heap.size + 1) 48 (l.set (cnt l key) (l[cnt l key].1, v))) := by
    show PB _ _ _ _
    simpa using hps
  have HB := Lib.hid hbw
  clear hps hbw hpb hb hab
  go_wp2
  refine bodyPost_ret (v := .tuple #[.slice (some ⟨w.heap.size + 1, 0, none⟩) n n, anV ⟨0, 0, 0, true⟩]) (by simp [results, Tryz.results124, go_sem, a0, a1, a2, a3]) rfl ?_
  have hp := (HP.out.st4 (g' := w.heap.size) (by omega) 0 0 0 true).ps (c := n) (by rw [List.length_set, Hlen.out]; exact Nat.le_refl _)
  rw [List.length_set, Hlen.out, HK.out, ← HF.out.1] at hp
  exact retPA_mk hp (below_st4 (HB.out.setCell (by simp) _) (Nat.le_refl _) _ _ _ _) HF.out.2 (fun ad h => by cases h; simp)

set_option maxRecDepth 100000 in
set_option maxHeartbeats 1000000 in
theorem put_full (A : Option Addr) (n c : Nat) (l : PL) (key v : Int) (w : World) (h : PS w A n c l) (hn : n ≤ 200) (hh : hasB l (cnt l key) key = false) (hfull : 200 ≤ n) :
    Calls Tryz.prog 124 #[.slice A n c, I key, I v] w (RetPA (putL l key v) (putA l key) w) := by
  have H := Lib.hid h
  have Hlen := Lib.hid h.len
  clear h
  have hcn : cnt l key ≤ n := by have := cnt_le l key; rw [Hlen.out] at this; exact this
  have HF : Hid (putL l key v = l ∧ putA l key = ⟨2, 0, 0, false⟩) := by show _ ∧ _; have := Hlen.out; simp [putL, putA, hh, this, hfull]
  have HH := Lib.hid hh
  clear hh
  go_enter Tryz.func124, Tryz.ntmps124
  go_wp2_with fail
  refine (countBelow_any _ n c l key _ (H.out.alloc _) (by omega)).mono ?_
  rintro e w' ⟨rfl, rfl⟩
  go_wp2_with fail
  refine (hasAt_f _ n c (cnt l key) l key _ (H.out.alloc _) (by omega) (by omega) HH.out).mono ?_
  rintro e w' ⟨rfl, rfl⟩
  go_wp2_with fail
  refine (copyOf_any _ n c l _ (H.out.alloc _) (by omega)).mono ?_
  rintro e w2 ⟨rfl, hpb, hb⟩
  have hab : AB w2 w.heap.size := (AB.new w).below hb (by simp)
  obtain ⟨⟨a0, a1, a2, a3⟩, f0, f1, f2, f3⟩ := hab.facts
  have hbw : Below w.heap.size w w2 := ((Below.refl _ _).alloc (Nat.le_refl _) _).trans (hb.mono (by simp))
  have HP : Hid (PB w2 (w.heap.size + 1) 48 l) := by
    show PB _ _ _ _
    simpa using hpb
  have HB := Lib.hid hbw
  clear hbw hpb hb hab
  go_wp2
  refine bodyPost_ret (v := .tuple #[.slice (some ⟨w.heap.size + 1, 0, none⟩) n n, anV ⟨2, 0, 0, false⟩]) (by simp [results, Tryz.results124, go_sem, a0, a1, a2, a3]) rfl ?_
  have hp := (HP.out.st4 (g' := w.heap.size) (by omega) 2 0 0 false).ps (c := n) (by rw [Hlen.out]; exact Nat.le_refl _)
  rw [Hlen.out, ← HF.out.1] at hp
  exact retPA_mk hp (below_st4 HB.out (Nat.le_refl _) _ _ _ _) HF.out.2 (fun ad h => by cases h; simp)

theorem put_rows (n p : Nat) (l : PL) (key v : Int) (h : l.length = n) (hp : p ≤ n) :
    cop ((cop (List.replicate (n + 1) (0, 0)) 0 (l.take p) p).set p (key, v)) (p + 1) (l.drop p) (n - p) = l.take p ++ (key, v) :: l.drop p := by
  subst h
  have h1 : cop (List.replicate (l.length + 1) ((0 : Int), (0 : Int))) 0 (l.take p) p = l.take p ++ ((0, 0) :: List.replicate (l.length - p) (0, 0)) := by
    simp only [cop, List.take_zero, List.nil_append, Nat.zero_add, List.drop_replicate, List.take_take, Nat.min_self]
    rw [show l.length + 1 - p = l.length - p + 1 by omega, List.replicate_succ]
  have hl : (l.take p).length = p := by simp; omega
  rw [h1, List.set_append_right _ _ (by omega), hl, Nat.sub_self, List.set_cons_zero]
  unfold cop
  have h2 : (l.take p ++ (key, v) :: List.replicate (l.length - p) (0, 0)).take (p + 1) = l.take p ++ [(key, v)] := by
    rw [List.take_append, hl]
    simp [List.take_take]
  have h3 : (l.take p ++ (key, v) :: List.replicate (l.length - p) (0, 0)).drop (p + 1 + (l.length - p)) = [] := by
    apply List.drop_eq_nil_of_le
    simp
    omega
  rw [h2, h3, List.take_of_length_le (l := l.drop p) (by simp)]
  simp

end Go.Proofs.YtpnjnedfcdppaaaGreatDoor

/-
  put where the key is new.
-/
namespace Go.Proofs.YtpnjnedfcdppaaaGreatDoor
open Go.RowKit

set_option maxRecDepth 100000 in
set_option maxHeartbeats 1000000 in
theorem put_new (A : Option Addr) (n c : Nat) (l : PL) (key v : Int) (w : World) (h : PS w A n c l) (hn : n < 200) (hh : hasB l (cnt l key) key = false) :
    Calls Tryz.prog 124 #[.slice A n c, I key, I v] w (RetPA (putL l key v) (putA l key) w) := by
  have hmk := fun W => run_makeP (P := Tryz.prog) 33 48 Tryz.underlying33 pair_info (n + 1) (by omega) W
  rw [show ((n + 1 : Nat) : Int) = (n : Int) + 1 by omega] at hmk
  have H := Lib.hid h
  have Hlen := Lib.hid h.len
  have hnc : n ≤ c := h.rd.1
  clear h
  have hcn : cnt l key ≤ n := by have := cnt_le l key; rw [Hlen.out] at this; exact this
  have hcc : cnt l key ≤ c := by omega
  have HF : Hid (putL l key v = l.take (cnt l key) ++ (key, v) :: l.drop (cnt l key) ∧ putA l key = ⟨0, 0, 0, false⟩) := by
    show _ ∧ _
    have := Hlen.out
    simp [putL, putA, hh, this]
    omega
  have HH := Lib.hid hh
  clear hh
  generalize hp : cnt l key = p at *
  have HPE := Lib.hid hp
  clear hp
  have hbw : Below w.heap.size w (w.alloc ansO) := (Below.refl _ _).alloc (Nat.le_refl _) _
  have hbw2 : Below w.heap.size w ((w.alloc ansO).alloc (.cells (flat (List.replicate (n + 1) (0, 0))).toArray 48)) := hbw.alloc (by simp) _
  go_enter Tryz.func124, Tryz.ntmps124
  go_wp2_with fail
  refine (countBelow_any _ n c l key _ (H.out.alloc _) (by omega)).mono ?_
  rintro e w' ⟨rfl, rfl⟩
  rw [HPE.out]
  go_wp2_with fail
  refine (hasAt_f _ n c p l key _ (H.out.alloc _) (by omega) (by omega) HH.out).mono ?_
  rintro e w' ⟨rfl, rfl⟩
  go_wp2_with (with_reducible refine wpList_copyP rfl (.tmp 37) (.tmp 40) 33 rfl 48 Tryz.underlying33 pair_size (some ⟨w.heap.size + 1, 0, none⟩) A (n + 1) (n + 1) p c rfl rfl (w.heap.size + 1) 0 48 (List.replicate (n + 1) (0, 0)) (l.take p) (by simpa using PB.new (w.alloc ansO) 48 (List.replicate (n + 1) (0, 0))) ((H.out.below hbw2).srcTake p hcn) (by simp) (fun _ => rfl) ?_)
  intro w1 hp1 hb1
  rw [show p.min (n + 1) = p from Nat.min_eq_left (by omega)] at hp1 ⊢
  have hab : AB w1 w.heap.size := ((AB.new w).below (B := w.heap.size + 1) ((Below.refl _ _).alloc (by simp) _) (by simp)).below (hb1 _ (Nat.le_refl _)) (by simp)
  obtain ⟨⟨a0, a1, a2, a3⟩, f0, f1, f2, f3⟩ := hab.facts
  have hbx : Below w.heap.size w w1 := hbw2.trans (hb1 _ (by simp))
  have hcl : p < (cop (List.replicate (n + 1) ((0 : Int), (0 : Int))) 0 (l.take p) p).length := by have := Hlen.out; simp [cop]; omega
  have hc0 : ∃ x, w1.cell? ⟨w.heap.size + 1, p * 2, none⟩ = some x := ⟨_, (hp1.cell _).trans (flat_at _ p hcl).1⟩
  have hc1 : ∃ x, w1.cell? ⟨w.heap.size + 1, p * 2 + 1, none⟩ = some x := ⟨_, (hp1.cell _).trans (flat_at _ p hcl).2⟩
  obtain ⟨x0, hx0⟩ := hc0
  obtain ⟨x1, hx1⟩ := hc1
  have hf0 := hp1.frozen (p * 2)
  have hf1 := hp1.frozen (p * 2 + 1)
  have HP2 := Lib.hid (hp1.set2 p key v hcl)
  have HBX := Lib.hid hbx
  have HAB := Lib.hid hab
  clear hp1 hb1 hab hbx hbw hbw2 hmk
  go_wp2
  obtain ⟨w3, hw3⟩ : ∃ w3, w3 = (w1.setCell ⟨w.heap.size + 1, p * 2, none⟩ (I key)).setCell ⟨w.heap.size + 1, p * 2 + 1, none⟩ (I v) := ⟨_, rfl⟩
  have hp3 := HP2.out
  have hb3 : Below w.heap.size w ((w1.setCell ⟨w.heap.size + 1, p * 2, none⟩ (I key)).setCell ⟨w.heap.size + 1, p * 2 + 1, none⟩ (I v)) := (HBX.out.setCell (by simp) _).setCell (by simp) _
  have hab3 : AB ((w1.setCell ⟨w.heap.size + 1, p * 2, none⟩ (I key)).setCell ⟨w.heap.size + 1, p * 2 + 1, none⟩ (I v)) w.heap.size := (HAB.out.far (p := ⟨w.heap.size + 1, p * 2, none⟩) (by simp) _).far (p := ⟨w.heap.size + 1, p * 2 + 1, none⟩) (by simp) _
  rw [← hw3] at hp3 hb3 hab3 ⊢
  clear hw3 HP2 HBX HAB a0 a1 a2 a3 f0 f1 f2 f3 hx0 hx1 hf0 hf1
  have HP3 := Lib.hid hp3
  have HB3 := Lib.hid hb3
  have HAB3 := Lib.hid hab3
  clear hp3 hb3 hab3
  have e1 : IntKind.i64.wrap ((p : Int) + 1) = (p : Int) + 1 := IntWalk.i64_in _ (by omega)
  have e2 : (0 : Int) ≤ (p : Int) + 1 := by omega
  have e3 : ((p : Int) + 1).toNat = p + 1 := by omega
  have e4 : (p : Int) + 1 ≤ (n : Int) + 1 := by omega
  go_still_tail 7, (by kernel_rfl)
  change wpList _ _ _ _ _ w3.drew
  generalize hsp : (if c = p then A else Option.map (fun x => Addr.add x (p * 2)) A) = sp
  generalize hdq : (if n = p then some (⟨w.heap.size + 1, 0, none⟩ : Addr) else some ⟨w.heap.size + 1, (p + 1) * 2, none⟩) = dq
  have HSP := Lib.hid hsp
  have HDQ := Lib.hid hdq
  clear hsp hdq
  have hp3 : PB w3.drew (w.heap.size + 1) 48 ((cop (List.replicate (n + 1) (0, 0)) 0 (l.take p) p).set p (key, v)) := HP3.out
  have hb3 : Below w.heap.size w w3.drew := HB3.out.drew
  refine wpList_copyP rfl (.tmp 51) (.tmp 54) 33 rfl 48 Tryz.underlying33 pair_size _ _ _ _ _ _ rfl rfl (w.heap.size + 1) (p + 1) 48 _ (l.drop p) hp3 ?src ?fit ?dp ?_
  case src => exact (H.out.below hb3).srcDrop p hcn _ (fun hlt b off hA => by rw [← HSP.out, if_neg (by omega), hA]; simp [addn])
  case fit => have := Hlen.out; simp [cop]; omega
  case dp => intro h; rw [← HDQ.out, if_neg (by omega)]
  intro w4 hp4 hb4
  rw [show (n - p).min (n - p) = n - p from Nat.min_self _] at hp4 ⊢
  rw [put_rows n p l key v Hlen.out hcn, ← HF.out.1] at hp4
  have hab4 : AB w4 w.heap.size := AB.below (w := w3.drew) HAB3.out (hb4 _ (Nat.le_refl _)) (by simp)
  obtain ⟨⟨a0, a1, a2, a3⟩, f0, f1, f2, f3⟩ := hab4.facts
  have hlen4 : (putL l key v).length = n + 1 := by rw [HF.out.1]; have := Hlen.out; simp; omega
  have HP4 := Lib.hid hp4
  have HB4 := Lib.hid (hb3.trans (hb4 _ (by simp)))
  have HL4 := Lib.hid hlen4
  clear hp4 hb4 hab4 hlen4 hp3 hb3 HP3 HB3 HAB3 e1 e2 e3 e4
  go_wp2
  refine bodyPost_ret (v := .tuple #[.slice (some ⟨w.heap.size + 1, 0, none⟩) (n + 1) (n + 1), anV ⟨0, 0, 0, false⟩]) (by simp [results, Tryz.results124, go_sem, a0, a1, a2, a3]) rfl ?_
  have hp := (HP4.out.st4 (g' := w.heap.size) (by omega) 0 0 0 false).ps (c := n + 1) (by rw [HL4.out]; exact Nat.le_refl _)
  rw [HL4.out] at hp
  exact retPA_mk hp (below_st4 HB4.out (Nat.le_refl _) _ _ _ _) HF.out.2 (fun ad h => by cases h; simp)

theorem put_any (A : Option Addr) (n c : Nat) (l : PL) (key v : Int) (w : World) (h : PS w A n c l) (hn : n ≤ 200) :
    Calls Tryz.prog 124 #[.slice A n c, I key, I v] w (RetPA (putL l key v) (putA l key) w) := by
  cases hh : hasB l (cnt l key) key with
  | true => exact put_has A n c l key v w h hn hh
  | false =>
    rcases Nat.lt_or_ge n 200 with h1 | h1
    · exact put_new A n c l key v w h h1 hh
    · exact put_full A n c l key v w h hn hh h1

end Go.Proofs.YtpnjnedfcdppaaaGreatDoor

/-
  cut.
-/
namespace Go.Proofs.YtpnjnedfcdppaaaGreatDoor
open Go.RowKit


def cutL (l : PL) (key : Int) : PL := if hasB l (cnt l key) key then l.take (cnt l key) ++ l.drop (cnt l key + 1) else l

theorem cut_rows (n p : Nat) (l : PL) (h : l.length = n) (hp : p < n) :
    cop (cop (List.replicate (n - 1) (0, 0)) 0 (l.take p) p) p (l.drop (p + 1)) (n - 1 - p) = l.take p ++ l.drop (p + 1) := by
  subst h
  have h1 : cop (List.replicate (l.length - 1) ((0 : Int), (0 : Int))) 0 (l.take p) p = l.take p ++ List.replicate (l.length - 1 - p) (0, 0) := by
    simp only [cop, List.take_zero, List.nil_append, Nat.zero_add, List.drop_replicate, List.take_take, Nat.min_self]
  have hl : (l.take p).length = p := by simp; omega
  rw [h1]
  unfold cop
  have h2 : (l.take p ++ List.replicate (l.length - 1 - p) ((0 : Int), (0 : Int))).take p = l.take p := by
    rw [List.take_append, hl]
    simp [List.take_take]
  have h3 : (l.take p ++ List.replicate (l.length - 1 - p) ((0 : Int), (0 : Int))).drop (p + (l.length - 1 - p)) = [] := by
    apply List.drop_eq_nil_of_le
    simp
    omega
  rw [h2, h3, List.take_of_length_le (l := l.drop (p + 1)) (by simp; omega)]
  simp

set_option maxRecDepth 100000 in
set_option maxHeartbeats 1000000 in
theorem cut_not (A : Option Addr) (n c : Nat) (l : PL) (key : Int) (w : World) (h : PS w A n c l) (hn : n ≤ 200) (hh : hasB l (cnt l key) key = false) :
    Calls Tryz.prog 125 #[.slice A n c, I key] w (RetPA (cutL l key) (getA l key) w) := by
  have H := Lib.hid h
  have Hlen := Lib.hid h.len
  clear h
  have hcn : cnt l key ≤ n := by have := cnt_le l key; rw [Hlen.out] at this; exact this
  have HF : Hid (cutL l key = l ∧ getA l key = ⟨0, 0, 0, false⟩) := by show _ ∧ _; simp [cutL, getA, hh]
  have HH := Lib.hid hh
  clear hh
  go_enter Tryz.func125, Tryz.ntmps125
  go_wp2_with fail
  refine (countBelow_any _ n c l key _ (H.out.alloc _) (by omega)).mono ?_
  rintro e w' ⟨rfl, rfl⟩
  go_wp2_with fail
  refine (hasAt_f _ n c (cnt l key) l key _ (H.out.alloc _) (by omega) (by omega) HH.out).mono ?_
  rintro e w' ⟨rfl, rfl⟩
  go_wp2_with fail
  refine (copyOf_any _ n c l _ (H.out.alloc _) (by omega)).mono ?_
  rintro e w2 ⟨rfl, hpb, hb⟩
  have hab : AB w2 w.heap.size := (AB.new w).below hb (by simp)
  obtain ⟨⟨a0, a1, a2, a3⟩, f0, f1, f2, f3⟩ := hab.facts
  have hbw : Below w.heap.size w w2 := ((Below.refl _ _).alloc (Nat.le_refl _) _).trans (hb.mono (by simp))
  have HP : Hid (PB w2 (w.heap.size + 1) 48 l) := by
    show PB _ _ _ _
    simpa using hpb
  have HB := Lib.hid hbw
  clear hbw hpb hb hab
  go_wp2
  refine bodyPost_ret (v := .tuple #[.slice (some ⟨w.heap.size + 1, 0, none⟩) n n, anV ⟨0, 0, 0, false⟩]) (by simp [results, Tryz.results125, go_sem, a0, a1, a2, a3]) rfl ?_
  have hp := (HP.out.st4 (g' := w.heap.size) (by omega) 0 0 0 false).ps (c := n) (by rw [Hlen.out]; exact Nat.le_refl _)
  rw [Hlen.out, ← HF.out.1] at hp
  exact retPA_mk hp (below_st4 HB.out (Nat.le_refl _) _ _ _ _) HF.out.2 (fun ad h => by cases h; simp)

set_option maxRecDepth 100000 in
set_option maxHeartbeats 1000000 in
theorem cut_has (A : Option Addr) (n c : Nat) (l : PL) (key : Int) (w : World) (h : PS w A n c l) (hn : n ≤ 200) (hh : hasB l (cnt l key) key = true) :
    Calls Tryz.prog 125 #[.slice A n c, I key] w (RetPA (cutL l key) (getA l key) w) := by
  have hkl := hasB_lt hh
  have hpn : cnt l key < n := by have := h.len; omega
  have hmk := fun W => run_makeP (P := Tryz.prog) 33 48 Tryz.underlying33 pair_info (n - 1) (by omega) W
  rw [show ((n - 1 : Nat) : Int) = (n : Int) - 1 by omega] at hmk
  have H := Lib.hid h
  have Hlen := Lib.hid h.len
  have hnc : n ≤ c := h.rd.1
  obtain ⟨b, off, rfl, hbl, hcell⟩ := h.at_ (by omega)
  obtain ⟨x, hx⟩ : ∃ x, (l[cnt l key]'hkl).2 = x := ⟨_, rfl⟩
  have HC : Hid (w.cell? ⟨b, off + (cnt l key * 2 + 1), none⟩ = some (I x)) := by rw [← hx]; exact (hcell (cnt l key) hpn).2
  clear h hcell
  have HF : Hid (cutL l key = l.take (cnt l key) ++ l.drop (cnt l key + 1) ∧ getA l key = ⟨0, 0, x, true⟩) := by
    show _ ∧ _
    simp [cutL, getA, hh, List.getElem?_eq_getElem hkl, hx]
  clear hx
  have HH := Lib.hid hh
  clear hh
  generalize hp : cnt l key = p at *
  have HPE := Lib.hid hp
  clear hp
  have hbw : Below w.heap.size w (w.alloc ansO) := (Below.refl _ _).alloc (Nat.le_refl _) _
  have hbw2 : Below w.heap.size w ((w.alloc ansO).alloc (.cells (flat (List.replicate (n - 1) (0, 0))).toArray 48)) := hbw.alloc (by simp) _
  go_enter Tryz.func125, Tryz.ntmps125
  go_wp2_with fail
  refine (countBelow_any _ n c l key _ (H.out.alloc _) (by omega)).mono ?_
  rintro e w' ⟨rfl, rfl⟩
  rw [HPE.out]
  go_wp2_with fail
  refine (hasAt_t _ n c p l key _ (H.out.alloc _) (by omega) (by omega) HH.out).mono ?_
  rintro e w' ⟨rfl, rfl⟩
  go_wp2_with (with_reducible refine wpList_copyP rfl (.tmp 23) (.tmp 26) 33 rfl 48 Tryz.underlying33 pair_size (some ⟨w.heap.size + 1, 0, none⟩) (some ⟨b, off, none⟩) (n - 1) (n - 1) p c rfl rfl (w.heap.size + 1) 0 48 (List.replicate (n - 1) (0, 0)) (l.take p) (by simpa using PB.new (w.alloc ansO) 48 (List.replicate (n - 1) (0, 0))) ((H.out.below hbw2).srcTake p (by omega)) (by simp) (fun _ => rfl) ?_)
  intro w1 hp1 hb1
  rw [show p.min (n - 1) = p from Nat.min_eq_left (by omega)] at hp1 ⊢
  have hab : AB w1 w.heap.size := ((AB.new w).below (B := w.heap.size + 1) ((Below.refl _ _).alloc (by simp) _) (by simp)).below (hb1 _ (Nat.le_refl _)) (by simp)
  have hbx : Below w.heap.size w w1 := hbw2.trans (hb1 _ (by simp))
  have HP1 := Lib.hid hp1
  have HBX := Lib.hid hbx
  have HAB := Lib.hid hab
  clear hp1 hb1 hab hbx hbw hbw2 hmk
  go_wp2
  have e1 : IntKind.i64.wrap ((p : Int) + 1) = (p : Int) + 1 := IntWalk.i64_in _ (by omega)
  have e2 : (0 : Int) ≤ (p : Int) + 1 := by omega
  have e3 : ((p : Int) + 1).toNat = p + 1 := by omega
  have e4 : (p : Int) + 1 ≤ (n : Int) := by omega
  have e5 : p ≤ n - 1 := by omega
  have e6 : (p : Int) ≤ ((n - 1 : Nat) : Int) := by omega
  go_still_tail 7, (by kernel_rfl)
  change wpList _ _ _ _ _ w1.drew
  generalize hsp : (if c = p + 1 then some (⟨b, off, none⟩ : Addr) else some ⟨b, off + (p + 1) * 2, none⟩) = sp
  generalize hdq : (if n - 1 = p then some (⟨w.heap.size + 1, 0, none⟩ : Addr) else some ⟨w.heap.size + 1, p * 2, none⟩) = dq
  have HSP := Lib.hid hsp
  have HDQ := Lib.hid hdq
  clear hsp hdq
  have hp3 : PB w1.drew (w.heap.size + 1) 48 (cop (List.replicate (n - 1) (0, 0)) 0 (l.take p) p) := HP1.out
  have hb3 : Below w.heap.size w w1.drew := HBX.out.drew
  refine wpList_copyP rfl (.tmp 30) (.tmp 34) 33 rfl 48 Tryz.underlying33 pair_size _ _ _ _ _ _ rfl rfl (w.heap.size + 1) p 48 _ (l.drop (p + 1)) hp3 ?src ?fit ?dp ?_
  case src => exact (H.out.below hb3).srcDrop (p + 1) (by omega) _ (fun hlt b' off' hA => by rw [← HSP.out, if_neg (by omega)]; simp at hA; simp [hA])
  case fit => have := Hlen.out; simp [cop]; omega
  case dp => intro h; rw [← HDQ.out, if_neg (by omega)]
  intro w4 hp4 hb4
  rw [show (n - (p + 1)).min (n - 1 - p) = n - 1 - p from Nat.min_eq_right (by omega)] at hp4 ⊢
  rw [cut_rows n p l Hlen.out hpn, ← HF.out.1] at hp4
  have hab4 : AB w4 w.heap.size := AB.below (w := w1.drew) HAB.out (hb4 _ (Nat.le_refl _)) (by simp)
  obtain ⟨⟨a0, a1, a2, a3⟩, f0, f1, f2, f3⟩ := hab4.facts
  have hlen4 : (cutL l key).length = n - 1 := by rw [HF.out.1]; have := Hlen.out; simp; omega
  have hb5 : Below w.heap.size w w4 := hb3.trans (hb4 _ (by simp))
  have hcx : w4.cell? ⟨b, off + p * 2 + 1, none⟩ = some (I x) := (hb5.cell (by exact hbl)).trans HC.out
  have HP4 := Lib.hid hp4
  have HB4 := Lib.hid hb5
  have HL4 := Lib.hid hlen4
  clear hp4 hb4 hab4 hlen4 hp3 hb3 HP1 HBX HAB e1 e2 e3 e4 e5 e6 hb5
  go_wp2
  go_region
  all_goals go_wp2
  refine bodyPost_ret (v := .tuple #[.slice (some ⟨w.heap.size + 1, 0, none⟩) (n - 1) (n - 1), anV ⟨0, 0, x, true⟩]) (by simp [results, Tryz.results125, go_sem, a0, a1, a2, a3]) rfl ?_
  have hp := (HP4.out.st4 (g' := w.heap.size) (by omega) 0 0 x true).ps (c := n - 1) (by rw [HL4.out]; exact Nat.le_refl _)
  rw [HL4.out] at hp
  exact retPA_mk hp.drew (below_st4 HB4.out (Nat.le_refl _) _ _ _ _).drew HF.out.2 (fun ad h => by cases h; simp)

theorem cut_any (A : Option Addr) (n c : Nat) (l : PL) (key : Int) (w : World) (h : PS w A n c l) (hn : n ≤ 200) :
    Calls Tryz.prog 125 #[.slice A n c, I key] w (RetPA (cutL l key) (getA l key) w) := by
  cases hh : hasB l (cnt l key) key with
  | true => exact cut_has A n c l key w h hn hh
  | false => exact cut_not A n c l key w h hn hh

end Go.Proofs.YtpnjnedfcdppaaaGreatDoor

/-
  look.
-/
namespace Go.Proofs.YtpnjnedfcdppaaaGreatDoor
open Go.RowKit

def lookA (l : PL) (kind key : Int) : An := if kind = 2 then getA l key else if kind = 4 then pairA l (cnt l (key + 1)) else if kind = 5 then pairA l (cnt l key - 1) else if kind = 6 then ⟨0, 0, cnt l key, true⟩ else pairA l key

set_option maxRecDepth 100000 in
set_option maxHeartbeats 1000000 in
theorem look_any (A : Option Addr) (n c : Nat) (l : PL) (kind key val : Int) (w : World) (h : PS w A n c l) (hn : n ≤ 200) (hk : (0 ≤ key ∧ key ≤ 1000000) ∨ (kind = 6 ∨ kind = 7)) :
    Calls Tryz.prog 126 #[.slice A n c, .agg #[I kind, I key, I val]] w fun e w' => e = .returned (anV (lookA l kind key)) ∧ Below w.heap.size w w' := by
  have H := Lib.hid h
  have hcn : cnt l key ≤ n := by have := cnt_le l key; rw [h.len] at this; exact this
  clear h
  have hbw : Below w.heap.size w ((w.alloc (.cells #[I kind, I key, I val] 69)).alloc ansO) := ((Below.refl _ _).alloc (Nat.le_refl _) _).alloc (by simp) _
  have hz : w.heap.size + 1 < ((w.alloc (.cells #[I kind, I key, I val] 69)).alloc ansO).heap.size := by simp
  have HAB : Hid (AB ((w.alloc (.cells #[I kind, I key, I val] 69)).alloc ansO) (w.heap.size + 1)) := by
    show AB _ _
    simpa using AB.new (w.alloc (.cells #[I kind, I key, I val] 69))
  have HB := Lib.hid hbw
  have HZ := Lib.hid hz
  have HLE : Hid (w.heap.size ≤ ((w.alloc (.cells #[I kind, I key, I val] 69)).alloc ansO).heap.size) := by show _ ≤ _; simp; omega
  clear hbw hz
  by_cases h2 : kind = 2
  · subst h2
    have HF : Hid (lookA l 2 key = getA l key) := by show lookA l 2 key = _; simp [lookA]
    go_enter Tryz.func126, Tryz.ntmps126
    go_wp2_with fail
    refine (get_any _ n c l key _ (H.out.below HB.out) (by omega)).mono ?_
    rintro e w2 ⟨rfl, hb⟩
    have hab : AB w2 (w.heap.size + 1) := HAB.out.below hb HZ.out
    obtain ⟨⟨a0, a1, a2, a3⟩, f0, f1, f2, f3⟩ := hab.facts
    have HB2 := Lib.hid (HB.out.trans (hb.mono HLE.out))
    clear hb hab
    go_wp2
    exact bodyPost_ret (v := anV (getA l key)) (by simp [results, Tryz.results126, go_sem, a0, a1, a2, a3]) rfl ⟨by rw [HF.out], below_st4 HB2.out (by simp) _ _ _ _⟩
  by_cases h4 : kind = 4
  · subst h4
    have HF : Hid (lookA l 4 key = pairA l (cnt l (key + 1))) := by show lookA l 4 key = _; simp [lookA]
    have hk0 : 0 ≤ key := by omega
    have hk1 : key ≤ 1000000 := by omega
    have hcn1 : cnt l (key + 1) ≤ n := by have := cnt_le l (key + 1); rw [H.out.len] at this; exact this
    clear hk h2
    go_enter Tryz.func126, Tryz.ntmps126
    go_wp2_with fail
    refine (countBelow_any _ n c l (key + 1) _ (H.out.below HB.out) (by omega)).mono ?_
    rintro e w' ⟨rfl, rfl⟩
    go_wp2_with fail
    refine (pairAt_any _ n c l (cnt l (key + 1)) _ (H.out.below HB.out) (by omega)).mono ?_
    rintro e w2 ⟨rfl, hb⟩
    have hab : AB w2 (w.heap.size + 1) := HAB.out.below hb HZ.out
    obtain ⟨⟨a0, a1, a2, a3⟩, f0, f1, f2, f3⟩ := hab.facts
    have HB2 := Lib.hid (HB.out.trans (hb.mono HLE.out))
    clear hb hab
    go_wp2
    exact bodyPost_ret (v := anV (pairA l (cnt l (key + 1)))) (by simp [results, Tryz.results126, go_sem, a0, a1, a2, a3]) rfl ⟨by rw [HF.out], below_st4 HB2.out (by simp) _ _ _ _⟩
  by_cases h5 : kind = 5
  · subst h5
    have HF : Hid (lookA l 5 key = pairA l (cnt l key - 1)) := by show lookA l 5 key = _; simp [lookA]
    clear hk h2 h4
    go_enter Tryz.func126, Tryz.ntmps126
    go_wp2_with fail
    refine (countBelow_any _ n c l key _ (H.out.below HB.out) (by omega)).mono ?_
    rintro e w' ⟨rfl, rfl⟩
    go_wp2_with fail
    refine (pairAt_any _ n c l (cnt l key - 1) _ (H.out.below HB.out) (by omega)).mono ?_
    rintro e w2 ⟨rfl, hb⟩
    have hab : AB w2 (w.heap.size + 1) := HAB.out.below hb HZ.out
    obtain ⟨⟨a0, a1, a2, a3⟩, f0, f1, f2, f3⟩ := hab.facts
    have HB2 := Lib.hid (HB.out.trans (hb.mono HLE.out))
    clear hb hab
    go_wp2
    exact bodyPost_ret (v := anV (pairA l (cnt l key - 1))) (by simp [results, Tryz.results126, go_sem, a0, a1, a2, a3]) rfl ⟨by rw [HF.out], below_st4 HB2.out (by simp) _ _ _ _⟩
  by_cases h6 : kind = 6
  · subst h6
    have HF : Hid (lookA l 6 key = ⟨0, 0, cnt l key, true⟩) := by show lookA l 6 key = _; simp [lookA]
    clear hk h2 h4 h5
    go_enter Tryz.func126, Tryz.ntmps126
    go_wp2_with fail
    refine (countBelow_any _ n c l key _ (H.out.below HB.out) (by omega)).mono ?_
    rintro e w' ⟨rfl, rfl⟩
    go_wp2
    exact bodyPost_ret (v := anV ⟨0, 0, cnt l key, true⟩) (by simp [results, Tryz.results126, go_sem]) rfl ⟨by rw [HF.out], ((Below.refl _ _).alloc (Nat.le_refl _) _).alloc (by simp) _⟩
  · have HF : Hid (lookA l kind key = pairA l key) := by show lookA l kind key = _; simp [lookA, h2, h4, h5, h6]
    have g2 : (kind == 2) = false := beq_eq_false_iff_ne.2 h2
    have g4 : (kind == 4) = false := beq_eq_false_iff_ne.2 h4
    have g5 : (kind == 5) = false := beq_eq_false_iff_ne.2 h5
    have g6 : (kind == 6) = false := beq_eq_false_iff_ne.2 h6
    clear hk h2 h4 h5 h6
    go_enter Tryz.func126, Tryz.ntmps126
    go_wp2_with fail
    refine (pairAt_any _ n c l key _ (H.out.below HB.out) (by omega)).mono ?_
    rintro e w2 ⟨rfl, hb⟩
    have hab : AB w2 (w.heap.size + 1) := HAB.out.below hb HZ.out
    obtain ⟨⟨a0, a1, a2, a3⟩, f0, f1, f2, f3⟩ := hab.facts
    have HB2 := Lib.hid (HB.out.trans (hb.mono HLE.out))
    clear hb hab
    go_wp2
    exact bodyPost_ret (v := anV (pairA l key)) (by simp [results, Tryz.results126, go_sem, a0, a1, a2, a3]) rfl ⟨by rw [HF.out], below_st4 HB2.out (by simp) _ _ _ _⟩

end Go.Proofs.YtpnjnedfcdppaaaGreatDoor
