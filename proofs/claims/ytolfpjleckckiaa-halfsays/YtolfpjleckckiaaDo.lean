/-
  put, cut, look, Do.
-/
import Derived.Test.YtolfpjleckckiaaOwn
import Derived.Deep.RegionHeld3
namespace Go.Proofs.Ytolfpjleckckiaa
open Go.RowKit

/-- a map and an answer come back; nothing that was there has turned -/
def RetPA (l : PL) (a : An) (w : World) (e : Ending) (w' : World) : Prop := ∃ A n c, e = .returned (.tuple #[.slice A n c, anV a]) ∧ PS w' A n c l ∧ Below w.heap.size w w' ∧ ∀ ad, A = some ad → w.heap.size ≤ ad.block

/-- the answer's own cells, as they are laid -/
abbrev ansO : Obj := .cells #[I 0, I 0, I 0, .bool false] 36
def AB (w : World) (g : Nat) : Prop := w.heap[g]? = some (.cells #[I 0, I 0, I 0, .bool false] 36 (0, 0))
theorem AB.new (w : World) : AB (w.alloc ansO) w.heap.size := heap_alloc_new w _
theorem AB.below {w w' : World} {g B : Nat} (h : AB w g) (hb : Below B w w') (hg : g < B) : AB w' g := (hb.block g hg).trans h
theorem AB.far {w : World} {g : Nat} (h : AB w g) {p : Addr} (hp : p.block ≠ g) (u : Value) : AB (w.setCell p u) g := (Below.heap_setCell w p u g (fun e => hp e.symm)).trans h
theorem AB.facts {w : World} {g : Nat} (h : AB w g) : (w.cell? ⟨g, 0, none⟩ = some (I 0) ∧ w.cell? ⟨g, 1, none⟩ = some (I 0) ∧ w.cell? ⟨g, 2, none⟩ = some (I 0) ∧ w.cell? ⟨g, 3, none⟩ = some (.bool false)) ∧
    (w.frozen? ⟨g, 0, none⟩ = false ∧ w.frozen? ⟨g, 1, none⟩ = false ∧ w.frozen? ⟨g, 2, none⟩ = false ∧ w.frozen? ⟨g, 3, none⟩ = false) := by
  unfold AB at h
  refine ⟨⟨?_, ?_, ?_, ?_⟩, ?_, ?_, ?_, ?_⟩ <;> simp [World.cell?, World.frozen?, h]

/-- an answer laid into its four cells -/
abbrev st4 (W : World) (g : Nat) (e k v : Int) (b : Bool) : World := (((W.setCell ⟨g, 0, none⟩ (I e)).setCell ⟨g, 1, none⟩ (I k)).setCell ⟨g, 2, none⟩ (I v)).setCell ⟨g, 3, none⟩ (.bool b)
theorem below_st4 {B g : Nat} {w W : World} (h : Below B w W) (hg : B ≤ g) (e k v : Int) (b : Bool) : Below B w (st4 W g e k v b) := (((h.setCell hg _).setCell hg _).setCell hg _).setCell hg _
theorem PB.st4 {w : World} {g t : Nat} {L : PL} (h : PB w g t L) {g' : Nat} (hp : g' ≠ g) (e k v : Int) (b : Bool) : PB (st4 w g' e k v b) g t L := (((h.far (p := ⟨g', 0, none⟩) hp _).far (p := ⟨g', 1, none⟩) hp _).far (p := ⟨g', 2, none⟩) hp _).far (p := ⟨g', 3, none⟩) hp _

theorem PS.st4 {w : World} {n c g : Nat} {A : Option Addr} {l : PL} (h : PS w A n c l) (hA : ∀ ad, A = some ad → ad.block ≠ g) (e k v : Int) (b : Bool) : PS (st4 w g e k v b) A n c l :=
  (((h.far (p := ⟨g, 0, none⟩) hA _).far (p := ⟨g, 1, none⟩) hA _).far (p := ⟨g, 2, none⟩) hA _).far (p := ⟨g, 3, none⟩) hA _
theorem retPA_mk {l : PL} {a : An} {w W : World} {A : Option Addr} {n c : Nat} {e k v : Int} {b : Bool} (h : PS W A n c l) (hb : Below w.heap.size w W) (ha : a = ⟨e, k, v, b⟩) (hA : ∀ ad, A = some ad → w.heap.size ≤ ad.block) : RetPA l a w (.returned (.tuple #[.slice A n c, anV ⟨e, k, v, b⟩])) W := by
  subst ha
  exact ⟨A, n, c, rfl, h, hb, hA⟩

def putL (l : PL) (key v : Int) : PL := if hasB l (cnt l key) key then l.set (cnt l key) (key, v) else if 200 ≤ l.length then l else l.take (cnt l key) ++ (key, v) :: l.drop (cnt l key)
def putA (l : PL) (key : Int) : An := if hasB l (cnt l key) key then ⟨0, 0, 0, true⟩ else if 200 ≤ l.length then ⟨2, 0, 0, false⟩ else an0

theorem hasB_key {l : PL} {p : Nat} {key : Int} (h : hasB l p key = true) : (l[p]'(hasB_lt h)).1 = key := by
  have hl := hasB_lt h
  unfold hasB at h
  rw [List.getElem?_eq_getElem hl] at h
  simpa using h

set_option maxHeartbeats 1000000 in
theorem put_has (A : Option Addr) (n c : Nat) (l : PL) (key v : Int) (w : World) (h : PS w A n c l) (hn : n ≤ 200) (hh : hasB l (cnt l key) key = true) :
    Calls Try.prog 39 #[.slice A n c, I key, I v] w (RetPA (putL l key v) (putA l key) w) := by
  have H := Lib.hid h
  have Hlen := Lib.hid h.len
  clear h
  have hkl := hasB_lt hh
  have hlt : cnt l key < n := by have := Hlen.out; omega
  have HF : Hid (putL l key v = l.set (cnt l key) (key, v) ∧ putA l key = ⟨0, 0, 0, true⟩) := by show _ ∧ _; simp [putL, putA, hh]
  have HK : Hid (l[cnt l key].1 = key) := hasB_key hh
  have HH := Lib.hid hh
  clear hh
  go_enter Try.func39, Try.ntmps39
  go_wp2_with fail
  refine (countBelow_any _ n c l key _ (H.out.alloc _) (by omega)).mono ?_
  rintro e w' ⟨rfl, rfl⟩
  go_wp2_with fail
  refine (hasAt_t _ n c (cnt l key) l key _ (H.out.alloc _) (by omega) (by omega) HH.out).mono ?_
  rintro e w' ⟨rfl, rfl⟩
  go_wp2_with fail
  refine (copyOf_any _ n c l _ (H.out.alloc _) (by omega)).mono ?_
  rintro e w2 ⟨rfl, hpb, hb⟩
  have hab : AB w2 w.heap.size := (AB.new w).below hb (by simp)
  obtain ⟨⟨a0, a1, a2, a3⟩, f0, f1, f2, f3⟩ := hab.facts
  have hbw : Below w.heap.size w w2 := ((Below.refl _ _).alloc (Nat.le_refl _) _).trans (hb.mono (by simp))
  have hps := hpb.set1 (cnt l key) v hkl
  have hpc : w2.cell? ⟨w.heap.size + 1, cnt l key * 2 + 1, none⟩ = some (I l[cnt l key].2) := by
    have := hpb.cell (cnt l key * 2 + 1)
    rw [(flat_at l _ hkl).2] at this
    simpa using this
  have hpf : w2.frozen? ⟨w.heap.size + 1, cnt l key * 2 + 1, none⟩ = false := by simpa using hpb.frozen (cnt l key * 2 + 1)
  have HP : Hid (PB (w2.setCell ⟨w.heap.size + 1, cnt l key * 2 + 1, none⟩ (I v)) (w.heap.size + 1) 68 (l.set (cnt l key) (l[cnt l key].1, v))) := by
    show PB _ _ _ _
    simpa using hps
  have HB := Lib.hid hbw
  clear hps hbw hpb hb hab
  go_wp2
  refine bodyPost_ret (v := .tuple #[.slice (some ⟨w.heap.size + 1, 0, none⟩) n n, anV ⟨0, 0, 0, true⟩]) (by simp [results, Try.results39, go_sem, a0, a1, a2, a3]) rfl ?_
  have hp := (HP.out.st4 (g' := w.heap.size) (by omega) 0 0 0 true).ps (c := n) (by rw [List.length_set, Hlen.out]; exact Nat.le_refl _)
  rw [List.length_set, Hlen.out, HK.out, ← HF.out.1] at hp
  exact retPA_mk hp (below_st4 (HB.out.setCell (by simp) _) (Nat.le_refl _) _ _ _ _) HF.out.2 (fun ad h => by cases h; simp)

set_option maxRecDepth 100000 in
set_option maxHeartbeats 1000000 in
theorem put_full (A : Option Addr) (n c : Nat) (l : PL) (key v : Int) (w : World) (h : PS w A n c l) (hn : n ≤ 200) (hh : hasB l (cnt l key) key = false) (hfull : 200 ≤ n) :
    Calls Try.prog 39 #[.slice A n c, I key, I v] w (RetPA (putL l key v) (putA l key) w) := by
  have H := Lib.hid h
  have Hlen := Lib.hid h.len
  clear h
  have hcn : cnt l key ≤ n := by have := cnt_le l key; rw [Hlen.out] at this; exact this
  have HF : Hid (putL l key v = l ∧ putA l key = ⟨2, 0, 0, false⟩) := by show _ ∧ _; have := Hlen.out; simp [putL, putA, hh, this, hfull]
  have HH := Lib.hid hh
  clear hh
  go_enter Try.func39, Try.ntmps39
  go_wp2_with fail
  refine (countBelow_any _ n c l key _ (H.out.alloc _) (by omega)).mono ?_
  rintro e w' ⟨rfl, rfl⟩
  go_wp2_with fail
  refine (hasAt_f _ n c (cnt l key) l key _ (H.out.alloc _) (by omega) (by omega) HH.out).mono ?_
  rintro e w' ⟨rfl, rfl⟩
  go_wp2_with fail
  refine (copyOf_any _ n c l _ (H.out.alloc _) (by omega)).mono ?_
  rintro e w2 ⟨rfl, hpb, hb⟩
  have hab : AB w2 w.heap.size := (AB.new w).below hb (by simp)
  obtain ⟨⟨a0, a1, a2, a3⟩, f0, f1, f2, f3⟩ := hab.facts
  have hbw : Below w.heap.size w w2 := ((Below.refl _ _).alloc (Nat.le_refl _) _).trans (hb.mono (by simp))
  have HP : Hid (PB w2 (w.heap.size + 1) 68 l) := by
    show PB _ _ _ _
    simpa using hpb
  have HB := Lib.hid hbw
  clear hbw hpb hb hab
  go_wp2
  refine bodyPost_ret (v := .tuple #[.slice (some ⟨w.heap.size + 1, 0, none⟩) n n, anV ⟨2, 0, 0, false⟩]) (by simp [results, Try.results39, go_sem, a0, a1, a2, a3]) rfl ?_
  have hp := (HP.out.st4 (g' := w.heap.size) (by omega) 2 0 0 false).ps (c := n) (by rw [Hlen.out]; exact Nat.le_refl _)
  rw [Hlen.out, ← HF.out.1] at hp
  exact retPA_mk hp (below_st4 HB.out (Nat.le_refl _) _ _ _ _) HF.out.2 (fun ad h => by cases h; simp)

/-- what the two copies and the store make -/
theorem put_rows (n p : Nat) (l : PL) (key v : Int) (h : l.length = n) (hp : p ≤ n) :
    cop ((cop (List.replicate (n + 1) (0, 0)) 0 (l.take p) p).set p (key, v)) (p + 1) (l.drop p) (n - p) = l.take p ++ (key, v) :: l.drop p := by
  subst h
  have h1 : cop (List.replicate (l.length + 1) ((0 : Int), (0 : Int))) 0 (l.take p) p = l.take p ++ ((0, 0) :: List.replicate (l.length - p) (0, 0)) := by
    simp only [cop, List.take_zero, List.nil_append, Nat.zero_add, List.drop_replicate, List.take_take, Nat.min_self]
    rw [show l.length + 1 - p = l.length - p + 1 by omega, List.replicate_succ]
  have hl : (l.take p).length = p := by simp; omega
  rw [h1, List.set_append_right _ _ (by omega), hl, Nat.sub_self, List.set_cons_zero]
  unfold cop
  have h2 : (l.take p ++ (key, v) :: List.replicate (l.length - p) (0, 0)).take (p + 1) = l.take p ++ [(key, v)] := by
    rw [List.take_append, hl]
    simp [List.take_take]
  have h3 : (l.take p ++ (key, v) :: List.replicate (l.length - p) (0, 0)).drop (p + 1 + (l.length - p)) = [] := by
    apply List.drop_eq_nil_of_le
    simp
    omega
  rw [h2, h3, List.take_of_length_le (l := l.drop p) (by simp)]
  simp

end Go.Proofs.Ytolfpjleckckiaa
