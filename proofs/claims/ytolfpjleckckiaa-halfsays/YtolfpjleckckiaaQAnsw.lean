/-
  hedgref.HalfAnswered: op by op, by which keys are there. (Written by tools/gen_qansw.py.)
-/
import Derived.Test.YtolfpjleckckiaaGSortAll
import Derived.Test.YtolfpjleckckiaaChk
import Derived.Test.YtolfpjleckckiaaRunAAll
import Derived.Test.YtolfpjleckckiaaGRefL
import Derived.Test.YtolfpjleckckiaaQDo2
import Derived.Maps.AppendAt
namespace Go.Proofs.Ytolfpjleckckiaa
open Go.RowKit Go.Maps

/-- answers gathered in a row of the call's own -/
def QOA (w : World) (base : Nat) (v : Value) (L : List An) : Prop := w.ownsRow base 36 4 v L.length (flatA L)
theorem QOA.as_ {w : World} {base : Nat} {v : Value} {L : List An} (h : QOA w base v L) : ∃ A c, v = .slice A L.length c ∧ AS w A L.length c L := by
  rcases h.2 with ⟨rfl, h0⟩ | ⟨g, cap, cur, rfl, hb, hg, hnc, _, hsz, htk⟩
  · have hl : L = [] := List.eq_nil_of_length_eq_zero h0
    subst hl
    exact ⟨none, 0, rfl, rfl, Rd.none_⟩
  · refine ⟨_, cap, rfl, rfl, hnc, fun _ => ⟨g, 0, rfl, ?_, fun i hi j hj => ?_⟩⟩
    · rcases Nat.lt_or_ge g w.heap.size with hlt | hge
      · exact hlt
      · rw [Array.getElem?_eq_none hge] at hg; cases hg
    · rw [cell_of_row _ _ _ _ _ _ hg]
      have hl : L[i]?.getD an0 = L[i] := by simp [List.getElem?_eq_getElem hi]
      have hf := flatA_at L i hi
      rw [← htk, List.getElem?_take, List.getElem?_take, List.getElem?_take, List.getElem?_take, if_pos (by omega), if_pos (by omega), if_pos (by omega), if_pos (by omega)] at hf
      rcases (show j = 0 ∨ j = 1 ∨ j = 2 ∨ j = 3 by omega) with rfl | rfl | rfl | rfl
      · simpa [af, hl] using hf.1
      · simpa [af, hl] using hf.2.1
      · simpa [af, hl] using hf.2.2.1
      · simpa [af, hl] using hf.2.2.2
theorem qrow_of {w w' : World} {base e s n : Nat} {v : Value} {xs : List Value} (h : w.ownsRow base e s v n xs) (hk : ∀ g, v.ownBlock = some g → w'.heap[g]? = w.heap[g]?) : w'.ownsRow base e s v n xs := by
  refine ⟨h.1, ?_⟩
  rcases h.2 with h0 | ⟨g, cap, cur, rfl, h2, h3, h4⟩
  · exact .inl h0
  · exact .inr ⟨g, cap, cur, rfl, h2, (hk g rfl).trans h3, h4⟩
theorem qrow_lt {w : World} {base e s n : Nat} {v : Value} {xs : List Value} (h : w.ownsRow base e s v n xs) : ∀ g, v.ownBlock = some g → g < w.heap.size := by
  intro g hg
  rcases h.2 with ⟨rfl, _⟩ | ⟨g', cap, cur, rfl, _, h3, _⟩
  · simp [Value.ownBlock] at hg
  · simp [Value.ownBlock] at hg
    subst hg
    exact (Array.getElem?_eq_some_iff.1 h3).1
/-- an answer's block -/
def QAB (w : World) (g : Nat) (a : An) : Prop := w.heap[g]? = some (.cells #[I a.e, I a.k, I a.v, .bool a.b] 36 (0, 0))
theorem QAB.cells {w : World} {g : Nat} {a : An} (h : QAB w g a) : w.cell? ⟨g, 0, none⟩ = some (I a.e) ∧ w.cell? ⟨g, 1, none⟩ = some (I a.k) ∧ w.cell? ⟨g, 2, none⟩ = some (I a.v) ∧ w.cell? ⟨g, 3, none⟩ = some (.bool a.b) := by
  unfold QAB at h
  refine ⟨?_, ?_, ?_, ?_⟩ <;> simp [World.cell?, h]
theorem QAB.keep {w w' : World} {g : Nat} {a : An} (h : QAB w g a) (e : w'.heap[g]? = w.heap[g]?) : QAB w' g a := e.trans h
theorem QAB.of_ab {w : World} {g : Nat} (h : AB w g) : QAB w g ⟨0, 0, 0, false⟩ := h
theorem QAB.s0 {w : World} {g : Nat} {a : An} (h : QAB w g a) (x : Int) : QAB (w.setCell ⟨g, 0, none⟩ (I x)) g ⟨x, a.k, a.v, a.b⟩ := by
  have := qcells_set (cs := [I a.e, I a.k, I a.v, .bool a.b]) h 0 (I x)
  simpa [QAB] using this
theorem QAB.s1 {w : World} {g : Nat} {a : An} (h : QAB w g a) (x : Int) : QAB (w.setCell ⟨g, 1, none⟩ (I x)) g ⟨a.e, x, a.v, a.b⟩ := by
  have := qcells_set (cs := [I a.e, I a.k, I a.v, .bool a.b]) h 1 (I x)
  simpa [QAB] using this
theorem QAB.s2 {w : World} {g : Nat} {a : An} (h : QAB w g a) (x : Int) : QAB (w.setCell ⟨g, 2, none⟩ (I x)) g ⟨a.e, a.k, x, a.b⟩ := by
  have := qcells_set (cs := [I a.e, I a.k, I a.v, .bool a.b]) h 2 (I x)
  simpa [QAB] using this
theorem QAB.s3 {w : World} {g : Nat} {a : An} (h : QAB w g a) (x : Bool) : QAB (w.setCell ⟨g, 3, none⟩ (.bool x)) g ⟨a.e, a.k, a.v, x⟩ := by
  have := qcells_set (cs := [I a.e, I a.k, I a.v, .bool a.b]) h 3 (.bool x)
  simpa [QAB] using this
theorem QAB.st4 {w : World} {g : Nat} {a : An} (h : QAB w g a) (e k v : Int) (b : Bool) : QAB (Go.Proofs.Ytolfpjleckckiaa.st4 w g e k v b) g ⟨e, k, v, b⟩ := (((h.s0 e).s1 k).s2 v).s3 b

/-- what stands ahead of a round, and behind it -/
structure QI (w wr : World) (k : Nat) (ops : List OP) (v : Value) : Prop where
  out : QOA wr (w.heap.size + 2) v (hR (ops.take k)).2
  map : HMb wr w.heap.size k (hR (ops.take k)).1
  var : QVar wr (w.heap.size + 1) w.heap.size
  bel : Below w.heap.size w wr
  sz : w.heap.size + 2 ≤ wr.heap.size
/-- in the middle of a round: the answer is laid -/
structure QJ (w wr w6 : World) (k : Nat) (ops : List OP) (v : Value) (l' : List Int) (a : An) : Prop where
  out : QOA w6 (w.heap.size + 2) v (hR (ops.take k)).2
  map : HMb w6 w.heap.size (k + 1) l'
  var : QVar w6 (w.heap.size + 1) w.heap.size
  bel : Below w.heap.size w w6
  sz : wr.heap.size + 2 ≤ w6.heap.size
  ab : QAB w6 (wr.heap.size + 1) a
theorem QJ.mk' {w wr W w6 : World} {k : Nat} {ops : List OP} {v : Value} {l' : List Int} {a : An} (h : QI w wr k ops v) (hW : Below wr.heap.size wr W) (hs : W.heap.size = wr.heap.size + 2) (hk : QK (fun x => x = wr.heap.size + 1 ∨ x = w.heap.size) W w6)
    (hm : HMb w6 w.heap.size (k + 1) l') (ha : QAB w6 (wr.heap.size + 1) a) : QJ w wr w6 k ops v l' a := by
  have hz := h.sz
  refine ⟨?_, hm, ?_, ?_, ?_, ha⟩
  · refine qrow_of h.out fun g hg => ?_
    have h1 := qrow_lt h.out g hg
    have h2 := own_ge1 h.out g hg
    exact (hk.block g (by omega) (by omega)).trans (hW.block g h1)
  · exact h.var.keep ((hk.block _ (by omega) (by omega)).trans (hW.block _ (by omega)))
  · exact (h.bel.trans (hW.mono (by omega))).trans (hk.below (by omega) (fun x hx => by omega))
  · have := hk.size; omega
/-- behind the append -/
theorem QI.next {w wr w6 w9 : World} {k : Nat} {ops : List OP} {v v9 : Value} {l' : List Int} {a : An} {o : Obj} (h : QJ w wr w6 k ops v l' a) (hz : w.heap.size + 2 ≤ wr.heap.size) (hk : k < ops.length) (hl : l' = hL (hR (ops.take k)).1 ops[k]) (ha : a = hA (hR (ops.take k)).1 ops[k])
    (hown : w9.ownsRow (w.heap.size + 2) 36 4 v9 ((hR (ops.take k)).2.length + 1) (flatA (hR (ops.take k)).2 ++ [I a.e, I a.k, I a.v, .bool a.b])) (hg : (w6.alloc o).grownBy w9 v.ownBlock) : QI w w9 (k + 1) ops v9 := by
  have hs := h.sz
  have hb : Below w6.heap.size w6 (w6.alloc o) := (Below.refl _ _).alloc (Nat.le_refl _) o
  have hsz : (w6.alloc o).heap.size = w6.heap.size + 1 := by simp
  have keep : ∀ x, x < w.heap.size + 2 → w9.heap[x]? = w6.heap[x]? := fun x hx => (hg.block x (by omega) (fun e => by have := own_ge1 h.out x e.symm; omega)).trans (hb.block x (by omega))
  have e2 : (hR (ops.take (k + 1))).2 = (hR (ops.take k)).2 ++ [a] := by rw [hR_succ ops k hk, ha]; rfl
  have e1 : (hR (ops.take (k + 1))).1 = l' := by rw [hR_succ ops k hk, hl]; rfl
  refine ⟨?_, ?_, ?_, ?_, ?_⟩
  · rw [e2]
    unfold QOA
    rw [List.length_append, flatA_append]
    exact hown
  · rw [e1]
    exact h.map.keep (keep _ (by omega))
  · exact h.var.keep (keep _ (by omega))
  · refine Below.grown (h.bel.alloc (by omega) o) hg (by omega) (fun g hg' => by have := own_ge1 h.out g hg'; omega)
  · have := hg.size; omega

def RetQA (l : List Int) (a : List An) (w : World) (e : Ending) (w' : World) : Prop :=
  ∃ A n c A' n' c', e = .returned (.tuple #[.slice A n c, .slice A' n' c']) ∧ IS w' A n c l ∧ AS w' A' n' c' a ∧ Below w.heap.size w w'

set_option maxRecDepth 100000 in
set_option maxHeartbeats 60000000 in
theorem HalfAnswered_any (A : Option Addr) (n c : Nat) (ops : List OP) (w : World) (h : OS w A n c ops) (hn : n ≤ 300) :
    Calls Try.prog 11 #[.slice A n c] w (RetQA (hR ops).1 (hR ops).2 w) := by
  have H := Lib.hid h
  have HLN := Lib.hid h.len
  clear h
  obtain ⟨i0, hi, hz0, hz1, hz2⟩ := info_parts ans_info
  have HI := Lib.hid hi
  have HZ0 := Lib.hid hz0
  have HZ1 := Lib.hid hz1
  have HZ2 := Lib.hid hz2
  have hmm := @run_makeMap Try.prog
  clear hi hz0 hz1 hz2
  go_enter Try.func11, Try.ntmps11
  go_wp2
  go_loopw [6, 16] (fun v i wr => ∃ k : Nat, k ≤ n ∧ i = .int .i64 k ∧ QI w wr k ops v) (fun _ i _ => n - (intOf i).toNat)
  case atStart =>
    refine ⟨0, Nat.zero_le _, rfl, World.ownsRow_nil _ _ _ _, ?_, ?_, ?_, ?_⟩
    · exact (HMb.made w).keep (Below.heap_alloc _ _ _ (by simp))
    · have := heap_alloc_new (w.alloc (.map #[] 0)) (.cells #[.map (some w.heap.size)] 61)
      simpa [QVar] using this
    · exact ((Below.refl _ _).alloc (Nat.le_refl _) _).alloc (by simp) _
    · simp
  case round =>
    obtain ⟨k, hk, rfl, hqi⟩ := hrel
    have HQI := Lib.hid hqi
    have hzr := hqi.sz
    have hxl : (hR (ops.take k)).2.length ≤ 300 := by rw [hR_len, List.length_take]; omega
    by_cases hlt : k < n
    · obtain ⟨b, off, rfl, hb, hc⟩ := (H.out.below hqi.bel).at_ (by omega)
      have hkl : k < ops.length := by rw [HLN.out]; exact hlt
      have hc0 : wr.cell? ⟨b, off + k * 3, none⟩ = some (I ops[k].1) := (hc k hlt).1
      have hc1 : wr.cell? ⟨b, off + k * 3 + 1, none⟩ = some (I ops[k].2.1) := (hc k hlt).2.1
      have hc2 : wr.cell? ⟨b, off + k * 3 + 2, none⟩ = some (I ops[k].2.2) := (hc k hlt).2.2
      have HKL := Lib.hid hkl
      have HNX : Hid (∀ (w6 w9 : World) (v9 : Value) (l' : List Int) (a : An) (ob : Obj), QJ w wr w6 k ops u6 l' a → l' = hL (hR (ops.take k)).1 ops[k] → a = hA (hR (ops.take k)).1 ops[k] →
        w9.ownsRow (w.heap.size + 2) 36 4 v9 ((hR (ops.take k)).2.length + 1) (flatA (hR (ops.take k)).2 ++ [I a.e, I a.k, I a.v, .bool a.b]) → (w6.alloc ob).grownBy w9 u6.ownBlock → QI w w9 (k + 1) ops v9) :=
        fun w6 w9 v9 l' a ob h hl ha hown hg => QI.next h hzr hkl hl ha hown hg
      have HKS := Lib.hid (hR_up (ops.take k))
      have HMP := Lib.hid hqi.map
      have HVR := Lib.hid hqi.var
      have HOW := Lib.hid hqi.out
      generalize ops[k] = o at *
      generalize (hR (ops.take k)).1 = l at *
      obtain ⟨kd, ky, vl⟩ := o
      simp only at hc0 hc1 hc2
      obtain ⟨W, hW⟩ : ∃ W, ((wr.alloc (.cells #[I kd, I ky, I vl] 39)).alloc ansO) = W := ⟨_, rfl⟩
      have hbW : Below wr.heap.size wr W := by rw [← hW]; exact ((Below.refl _ _).alloc (Nat.le_refl _) _).alloc (by simp) _
      have hab : AB W (wr.heap.size + 1) := by
        rw [← hW]
        simpa using AB.new (wr.alloc (.cells #[I kd, I ky, I vl] 39))
      have hop : W.heap[wr.heap.size]? = some (.cells #[I kd, I ky, I vl] 39 (0, 0)) := by
        rw [← hW]
        have := heap_alloc_new wr (.cells #[I kd, I ky, I vl] 39)
        exact (Below.heap_alloc _ _ _ (by simp)).trans this
      have hsz : W.heap.size = wr.heap.size + 2 := by rw [← hW]; simp
      have HW := Lib.hid hW
      have HBW := Lib.hid hbW
      have HAB := Lib.hid hab
      have HOP := Lib.hid hop
      have HSZ := Lib.hid hsz
      have o0 : W.cell? ⟨wr.heap.size, 0, none⟩ = some (I kd) := by simp [World.cell?, hop]
      have o1 : W.cell? ⟨wr.heap.size, 1, none⟩ = some (I ky) := by simp [World.cell?, hop]
      obtain ⟨⟨a0, a1, a2, a3⟩, f0, f1, f2, f3⟩ := hab.facts
      have HMW : Hid (HMb W w.heap.size k l) := HMP.out.keep (hbW.block _ (by omega))
      have HVW : Hid (QVar W (w.heap.size + 1) w.heap.size) := HVR.out.keep (hbW.block _ (by omega))
      have hwv := HVW.out.cell
      obtain ⟨m, hm⟩ : ∃ m, (hR (ops.take k)).2.length = m := ⟨_, rfl⟩
      obtain ⟨aa, haa⟩ : ∃ aa, (hR (ops.take k)).2 = aa := ⟨_, rfl⟩
      rw [hm] at hxl HNX
      rw [haa] at HNX
      have HM := Lib.hid hm
      have HAA := Lib.hid haa
      clear hc hqi hW hbW hab hop hm haa hkl
      by_cases g1 : 1 ≤ kd ∧ kd ≤ 5
      · by_cases g2 : 0 ≤ ky ∧ ky ≤ 65535
        · have HB1 := Lib.hid (Between_t kd 1 5 W (decide_eq_true g1))
          have HB2 := Lib.hid (Between_t ky 0 65535 W (decide_eq_true g2))
          have hky : 0 ≤ ky ∧ ky ≤ 1000000 := by omega
          by_cases g4 : kd = 4
          · subst g4
            have HNR := Lib.hid (near_next (T := k) W HVW.out HMW.out (by omega) HKS.out g2)
            go_wp2_with fail
            rw [HW.out]
            refine HB1.out.mono ?_
            rintro e w1 ⟨rfl, rfl⟩
            go_wp2_with fail
            refine HB2.out.mono ?_
            rintro e w1 ⟨rfl, rfl⟩
            have HG1 := Lib.hid g1
            have HG2 := Lib.hid g2
            clear g1 g2
            go_wp2_with fail
            obtain ⟨nan, hnan⟩ : ∃ nan, hanO (qnx ky l) = nan := ⟨_, rfl⟩
            rw [hnan] at HNR
            refine HNR.out.mono ?_
            rintro e w2 ⟨rfl, hb2⟩
            have HAN0 : Hid (nan = hA l (4, ky, vl)) := by
              show _ = _
              rw [← hnan]
              unfold hA
              rw [if_neg (fun e => e HG1.out), if_neg (fun e => e HG2.out), if_pos rfl]
            have HK2 := Lib.hid (QK.of_below (F := fun x => x = wr.heap.size + 1 ∨ x = w.heap.size) hb2 (Nat.le_refl _))
            have HM2 : Hid (HMb w2 w.heap.size k l) := HMW.out.keep (hb2.block _ HMW.out.lt)
            have hab2 : AB w2 (wr.heap.size + 1) := HAB.out.below hb2 (by have := HSZ.out; omega)
            have HAB2 := Lib.hid hab2
            obtain ⟨⟨b0, b1, b2, b3⟩, h0, h1, h2, h3⟩ := hab2.facts
            clear hnan
            obtain ⟨ne, nk, nv, nb⟩ := nan
            clear hb2 hab2 HNR
            have HLL : Hid (l = hL l (4, ky, vl)) := (hL_get (by show (4 : Int) ≠ 1; decide) (by show (4 : Int) ≠ 3; decide)).symm
            have HAN : Hid ((⟨ne, nk, nv, nb⟩ : An) = hA l (4, ky, vl)) := HAN0
            have HJ : Hid (QJ w wr ((((w2.setCell ⟨wr.heap.size + 1, 0, none⟩ (.int .i64 ne)).setCell ⟨wr.heap.size + 1, 1, none⟩ (.int .i64 nk)).setCell ⟨wr.heap.size + 1, 2, none⟩ (.int .i64 nv)).setCell ⟨wr.heap.size + 1, 3, none⟩ (.bool nb)) k ops u6 (l) (⟨ne, nk, nv, nb⟩ : An)) := QJ.mk' HQI.out HBW.out HSZ.out ((((HK2.out.set (.inl rfl) 0 _).set (.inl rfl) 1 _).set (.inl rfl) 2 _).set (.inl rfl) 3 _) ((HM2.out.keep (by rw [Below.heap_setCell _ ⟨wr.heap.size + 1, 3, none⟩ _ _ (by show w.heap.size ≠ wr.heap.size + 1; omega), Below.heap_setCell _ ⟨wr.heap.size + 1, 2, none⟩ _ _ (by show w.heap.size ≠ wr.heap.size + 1; omega), Below.heap_setCell _ ⟨wr.heap.size + 1, 1, none⟩ _ _ (by show w.heap.size ≠ wr.heap.size + 1; omega), Below.heap_setCell _ ⟨wr.heap.size + 1, 0, none⟩ _ _ (by show w.heap.size ≠ wr.heap.size + 1; omega)])).mono (by omega)) (((((QAB.of_ab HAB2.out).s0 ne).s1 nk).s2 nv).s3 nb)
            have HOR : Hid (((((w2.setCell ⟨wr.heap.size + 1, 0, none⟩ (.int .i64 ne)).setCell ⟨wr.heap.size + 1, 1, none⟩ (.int .i64 nk)).setCell ⟨wr.heap.size + 1, 2, none⟩ (.int .i64 nv)).setCell ⟨wr.heap.size + 1, 3, none⟩ (.bool nb)).ownsRow (w.heap.size + 2) 36 4 u6 m (flatA aa)) := by have := HJ.out.out; unfold QOA at this; rw [HAA.out] at this; rw [← HAA.out, HM.out, HAA.out] at this; exact this
            have HNEW : Hid (∀ (j : Nat) (u : Value), ([I ne, I nk, I nv, .bool nb] : List Value)[j]? = some u → (((((w2.setCell ⟨wr.heap.size + 1, 0, none⟩ (.int .i64 ne)).setCell ⟨wr.heap.size + 1, 1, none⟩ (.int .i64 nk)).setCell ⟨wr.heap.size + 1, 2, none⟩ (.int .i64 nv)).setCell ⟨wr.heap.size + 1, 3, none⟩ (.bool nb)).alloc (anO (⟨ne, nk, nv, nb⟩ : An))).cell? ((⟨((((w2.setCell ⟨wr.heap.size + 1, 0, none⟩ (.int .i64 ne)).setCell ⟨wr.heap.size + 1, 1, none⟩ (.int .i64 nk)).setCell ⟨wr.heap.size + 1, 2, none⟩ (.int .i64 nv)).setCell ⟨wr.heap.size + 1, 3, none⟩ (.bool nb)).heap.size, 0, none⟩ : Addr).add j) = some u) := fun j u hu => by
              rw [addn]
              have hnew := heap_alloc_new ((((w2.setCell ⟨wr.heap.size + 1, 0, none⟩ (.int .i64 ne)).setCell ⟨wr.heap.size + 1, 1, none⟩ (.int .i64 nk)).setCell ⟨wr.heap.size + 1, 2, none⟩ (.int .i64 nv)).setCell ⟨wr.heap.size + 1, 3, none⟩ (.bool nb)) (anO (⟨ne, nk, nv, nb⟩ : An))
              rw [cell_of_row _ _ _ _ _ _ hnew]
              simpa using hu
            have HNEW2 : Hid (∀ (j : Nat) (u : Value), ([I ne, I nk, I nv, .bool nb] : List Value)[j]? = some u → (((((w2.setCell ⟨wr.heap.size + 1, 0, none⟩ (.int .i64 ne)).setCell ⟨wr.heap.size + 1, 1, none⟩ (.int .i64 nk)).setCell ⟨wr.heap.size + 1, 2, none⟩ (.int .i64 nv)).setCell ⟨wr.heap.size + 1, 3, none⟩ (.bool nb)).alloc (anO (⟨ne, nk, nv, nb⟩ : An))).cell? ((⟨w2.heap.size, 0, none⟩ : Addr).add j) = some u) := by
              have h := HNEW.out
              show ∀ (j : Nat) (u : Value), _
              simpa only [World.size_setCell] using h
            have hz6 := HJ.out.sz
            go_wp2_with (first
              | (at_builtin
                 refine wpList_append_own_at _ rfl (.tmp 67) (.tmp 69) 24 rfl (w.heap.size + 2) 36 i0 _ 4 32 Try.underlying24 HI.out HZ0.out HZ1.out HZ2.out rfl (by omega) u6 m (flatA aa) rfl (own_below HOR.out ((Below.refl _ _).alloc (Nat.le_refl _) _)) ⟨_, 0, none⟩ 1 1 [I ne, I nk, I nv, .bool nb] rfl rfl HNEW2.out (by intro u hu; simp at hu; rcases hu with rfl | rfl | rfl | rfl <;> rfl) (by unfold maxLen; omega) (by omega) (by rw [World.size_alloc]; first | omega | (simp; omega)) ?_
                 intro v9 w9 hown9 hgrow9 _ hat9)
              | fail)
            have HQ9 := Lib.hid (HNX.out _ w9 v9 _ _ _ HJ.out HLL.out HAN.out hown9 hgrow9)
            clear hown9 hgrow9 hat9
            go_roundw
            case rel => exact ⟨k + 1, by omega, by go_num, HQ9.out⟩
            case measure => simp [intOf]; omega
          · by_cases g5 : kd = 5
            · subst g5
              have HNR := Lib.hid (near_prev (T := k) W HVW.out HMW.out (by omega) HKS.out g2)
              go_wp2_with fail
              rw [HW.out]
              refine HB1.out.mono ?_
              rintro e w1 ⟨rfl, rfl⟩
              go_wp2_with fail
              refine HB2.out.mono ?_
              rintro e w1 ⟨rfl, rfl⟩
              have HG1 := Lib.hid g1
              have HG2 := Lib.hid g2
              clear g1 g2
              go_wp2_with fail
              obtain ⟨nan, hnan⟩ : ∃ nan, hanO (qpv ky l) = nan := ⟨_, rfl⟩
              rw [hnan] at HNR
              refine HNR.out.mono ?_
              rintro e w2 ⟨rfl, hb2⟩
              have HAN0 : Hid (nan = hA l (5, ky, vl)) := by
                show _ = _
                rw [← hnan]
                unfold hA
                rw [if_neg (fun e => e HG1.out), if_neg (fun e => e HG2.out), if_neg (by simp), if_pos rfl]
              have HK2 := Lib.hid (QK.of_below (F := fun x => x = wr.heap.size + 1 ∨ x = w.heap.size) hb2 (Nat.le_refl _))
              have HM2 : Hid (HMb w2 w.heap.size k l) := HMW.out.keep (hb2.block _ HMW.out.lt)
              have hab2 : AB w2 (wr.heap.size + 1) := HAB.out.below hb2 (by have := HSZ.out; omega)
              have HAB2 := Lib.hid hab2
              obtain ⟨⟨b0, b1, b2, b3⟩, h0, h1, h2, h3⟩ := hab2.facts
              clear hnan
              obtain ⟨ne, nk, nv, nb⟩ := nan
              clear hb2 hab2 HNR
              have HLL : Hid (l = hL l (5, ky, vl)) := (hL_get (by show (5 : Int) ≠ 1; decide) (by show (5 : Int) ≠ 3; decide)).symm
              have HAN : Hid ((⟨ne, nk, nv, nb⟩ : An) = hA l (5, ky, vl)) := HAN0
              have HJ : Hid (QJ w wr ((((w2.setCell ⟨wr.heap.size + 1, 0, none⟩ (.int .i64 ne)).setCell ⟨wr.heap.size + 1, 1, none⟩ (.int .i64 nk)).setCell ⟨wr.heap.size + 1, 2, none⟩ (.int .i64 nv)).setCell ⟨wr.heap.size + 1, 3, none⟩ (.bool nb)) k ops u6 (l) (⟨ne, nk, nv, nb⟩ : An)) := QJ.mk' HQI.out HBW.out HSZ.out ((((HK2.out.set (.inl rfl) 0 _).set (.inl rfl) 1 _).set (.inl rfl) 2 _).set (.inl rfl) 3 _) ((HM2.out.keep (by rw [Below.heap_setCell _ ⟨wr.heap.size + 1, 3, none⟩ _ _ (by show w.heap.size ≠ wr.heap.size + 1; omega), Below.heap_setCell _ ⟨wr.heap.size + 1, 2, none⟩ _ _ (by show w.heap.size ≠ wr.heap.size + 1; omega), Below.heap_setCell _ ⟨wr.heap.size + 1, 1, none⟩ _ _ (by show w.heap.size ≠ wr.heap.size + 1; omega), Below.heap_setCell _ ⟨wr.heap.size + 1, 0, none⟩ _ _ (by show w.heap.size ≠ wr.heap.size + 1; omega)])).mono (by omega)) (((((QAB.of_ab HAB2.out).s0 ne).s1 nk).s2 nv).s3 nb)
              have HOR : Hid (((((w2.setCell ⟨wr.heap.size + 1, 0, none⟩ (.int .i64 ne)).setCell ⟨wr.heap.size + 1, 1, none⟩ (.int .i64 nk)).setCell ⟨wr.heap.size + 1, 2, none⟩ (.int .i64 nv)).setCell ⟨wr.heap.size + 1, 3, none⟩ (.bool nb)).ownsRow (w.heap.size + 2) 36 4 u6 m (flatA aa)) := by have := HJ.out.out; unfold QOA at this; rw [HAA.out] at this; rw [← HAA.out, HM.out, HAA.out] at this; exact this
              have HNEW : Hid (∀ (j : Nat) (u : Value), ([I ne, I nk, I nv, .bool nb] : List Value)[j]? = some u → (((((w2.setCell ⟨wr.heap.size + 1, 0, none⟩ (.int .i64 ne)).setCell ⟨wr.heap.size + 1, 1, none⟩ (.int .i64 nk)).setCell ⟨wr.heap.size + 1, 2, none⟩ (.int .i64 nv)).setCell ⟨wr.heap.size + 1, 3, none⟩ (.bool nb)).alloc (anO (⟨ne, nk, nv, nb⟩ : An))).cell? ((⟨((((w2.setCell ⟨wr.heap.size + 1, 0, none⟩ (.int .i64 ne)).setCell ⟨wr.heap.size + 1, 1, none⟩ (.int .i64 nk)).setCell ⟨wr.heap.size + 1, 2, none⟩ (.int .i64 nv)).setCell ⟨wr.heap.size + 1, 3, none⟩ (.bool nb)).heap.size, 0, none⟩ : Addr).add j) = some u) := fun j u hu => by
                rw [addn]
                have hnew := heap_alloc_new ((((w2.setCell ⟨wr.heap.size + 1, 0, none⟩ (.int .i64 ne)).setCell ⟨wr.heap.size + 1, 1, none⟩ (.int .i64 nk)).setCell ⟨wr.heap.size + 1, 2, none⟩ (.int .i64 nv)).setCell ⟨wr.heap.size + 1, 3, none⟩ (.bool nb)) (anO (⟨ne, nk, nv, nb⟩ : An))
                rw [cell_of_row _ _ _ _ _ _ hnew]
                simpa using hu
              have HNEW2 : Hid (∀ (j : Nat) (u : Value), ([I ne, I nk, I nv, .bool nb] : List Value)[j]? = some u → (((((w2.setCell ⟨wr.heap.size + 1, 0, none⟩ (.int .i64 ne)).setCell ⟨wr.heap.size + 1, 1, none⟩ (.int .i64 nk)).setCell ⟨wr.heap.size + 1, 2, none⟩ (.int .i64 nv)).setCell ⟨wr.heap.size + 1, 3, none⟩ (.bool nb)).alloc (anO (⟨ne, nk, nv, nb⟩ : An))).cell? ((⟨w2.heap.size, 0, none⟩ : Addr).add j) = some u) := by
                have h := HNEW.out
                show ∀ (j : Nat) (u : Value), _
                simpa only [World.size_setCell] using h
              have hz6 := HJ.out.sz
              go_wp2_with (first
                | (at_builtin
                   refine wpList_append_own_at _ rfl (.tmp 67) (.tmp 69) 24 rfl (w.heap.size + 2) 36 i0 _ 4 32 Try.underlying24 HI.out HZ0.out HZ1.out HZ2.out rfl (by omega) u6 m (flatA aa) rfl (own_below HOR.out ((Below.refl _ _).alloc (Nat.le_refl _) _)) ⟨_, 0, none⟩ 1 1 [I ne, I nk, I nv, .bool nb] rfl rfl HNEW2.out (by intro u hu; simp at hu; rcases hu with rfl | rfl | rfl | rfl <;> rfl) (by unfold maxLen; omega) (by omega) (by rw [World.size_alloc]; first | omega | (simp; omega)) ?_
                   intro v9 w9 hown9 hgrow9 _ hat9)
                | fail)
              have HQ9 := Lib.hid (HNX.out _ w9 v9 _ _ _ HJ.out HLL.out HAN.out hown9 hgrow9)
              clear hown9 hgrow9 hat9
              go_roundw
              case rel => exact ⟨k + 1, by omega, by go_num, HQ9.out⟩
              case measure => simp [intOf]; omega
            · have hlook := HMW.out.look hky
              obtain ⟨cc, hcc⟩ : ∃ cc : Int, (if ky ∈ l then (1 : Int) else 0) = cc := ⟨_, rfl⟩
              rw [hcc] at hlook
              obtain ⟨bb, hbb⟩ : ∃ bb, (cc == 1) = bb := ⟨_, rfl⟩
              have HBB : Hid (bb = decide (ky ∈ l)) := by show bb = _; rw [← hbb, ← hcc]; by_cases h : ky ∈ l <;> simp [h]
              clear hcc
              rcases (show kd = 1 ∨ kd = 2 ∨ kd = 3 by omega) with rfl | rfl | rfl
              · skip
                go_wp2_with fail
                rw [HW.out]
                refine HB1.out.mono ?_
                rintro e w1 ⟨rfl, rfl⟩
                go_wp2_with fail
                refine HB2.out.mono ?_
                rintro e w1 ⟨rfl, rfl⟩
                have HG1 := Lib.hid g1
                have HG2 := Lib.hid g2
                clear g1 g2
                obtain ⟨W1, hW1⟩ : ∃ W1, W.setCell ⟨wr.heap.size + 1, 3, none⟩ (.bool bb) = W1 := ⟨_, rfl⟩
                have hk1 : ∀ x, x ≠ wr.heap.size + 1 → W1.heap[x]? = W.heap[x]? := fun x hx => by rw [← hW1]; exact Below.heap_setCell _ ⟨wr.heap.size + 1, 3, none⟩ _ _ hx
                have HM1 : Hid (HMb W1 w.heap.size k l) := HMW.out.keep (hk1 _ (by omega))
                have HQ1 : Hid (QK (fun x => x = wr.heap.size + 1 ∨ x = w.heap.size) W W1) := by show QK _ _ _; rw [← hW1]; exact (QK.refl _ W).set (.inl rfl) 3 _
                have HA1 : Hid (QAB W1 (wr.heap.size + 1) ⟨0, 0, 0, bb⟩) := by show QAB _ _ _; rw [← hW1]; exact (QAB.of_ab HAB.out).s3 bb
                have hop1 : W1.heap[wr.heap.size]? = some (.cells #[I 1, I ky, I vl] 39 (0, 0)) := (hk1 _ (by omega)).trans HOP.out
                have s0 : W1.cell? ⟨wr.heap.size, 0, none⟩ = some (I 1) := by simp [World.cell?, hop1]
                have s1 : W1.cell? ⟨wr.heap.size, 1, none⟩ = some (I ky) := by simp [World.cell?, hop1]
                have hv1 : W1.cell? ⟨w.heap.size + 1, 0, none⟩ = some (.map (some w.heap.size)) := ((HVW.out.keep (hk1 _ (by omega)))).cell
                obtain ⟨w5, hupd, hm5, hg5⟩ := HM1.out.store (by omega) hky
                have HM5 := Lib.hid hm5
                have HQ5 := Lib.hid (HQ1.out.grown hg5 (.inr rfl))
                have HA5 := Lib.hid (HA1.out.keep (hg5.block _ (by have := HQ1.out.size; have := HSZ.out; omega) (fun e => by have := Option.some.inj e; omega)))
                have hop5 : w5.heap[wr.heap.size]? = some (.cells #[I 1, I ky, I vl] 39 (0, 0)) := (hg5.block _ (by have := HQ1.out.size; have := HSZ.out; omega) (fun e => by have := Option.some.inj e; omega)).trans hop1
                have t0 : w5.cell? ⟨wr.heap.size, 0, none⟩ = some (I 1) := by simp [World.cell?, hop5]
                obtain ⟨e0, e1, e2, e3⟩ := HA5.out.cells
                simp only at e0 e1 e2 e3
                have HW1 := Lib.hid hW1
                clear hW1 hk1 hop1 hm5 hg5 hop5
                have hW1' : W.setCell ⟨wr.heap.size + 1, 3, none⟩ (.bool bb) = W1 := HW1.out
                have HLL : Hid (qins ky l = hL l (1, ky, vl)) := (hL_one HG2.out.1 HG2.out.2).symm
                have HAN : Hid ((⟨0, 0, 0, bb⟩ : An) = hA l (1, ky, vl)) := (by show _ = _; rw [hA_is (by omega) HG2.out.1 HG2.out.2, HBB.out])
                have HJ : Hid (QJ w wr (w5) k ops u6 (qins ky l) (⟨0, 0, 0, bb⟩ : An)) := QJ.mk' HQI.out HBW.out HSZ.out (HQ5.out) (HM5.out) (HA5.out)
                have HOR : Hid ((w5).ownsRow (w.heap.size + 2) 36 4 u6 m (flatA aa)) := by have := HJ.out.out; unfold QOA at this; rw [HAA.out] at this; rw [← HAA.out, HM.out, HAA.out] at this; exact this
                have HNEW : Hid (∀ (j : Nat) (u : Value), ([I 0, I 0, I 0, .bool bb] : List Value)[j]? = some u → ((w5).alloc (anO (⟨0, 0, 0, bb⟩ : An))).cell? ((⟨(w5).heap.size, 0, none⟩ : Addr).add j) = some u) := fun j u hu => by
                  rw [addn]
                  have hnew := heap_alloc_new (w5) (anO (⟨0, 0, 0, bb⟩ : An))
                  rw [cell_of_row _ _ _ _ _ _ hnew]
                  simpa using hu
                have HNEW2 : Hid (∀ (j : Nat) (u : Value), ([I 0, I 0, I 0, .bool bb] : List Value)[j]? = some u → ((w5).alloc (anO (⟨0, 0, 0, bb⟩ : An))).cell? ((⟨w5.heap.size, 0, none⟩ : Addr).add j) = some u) := by
                  have h := HNEW.out
                  show ∀ (j : Nat) (u : Value), _
                  simpa only [World.size_setCell] using h
                have hz6 := HJ.out.sz
                go_wp2_with (first
                  | (at_builtin
                     refine wpList_append_own_at _ rfl (.tmp 67) (.tmp 69) 24 rfl (w.heap.size + 2) 36 i0 _ 4 32 Try.underlying24 HI.out HZ0.out HZ1.out HZ2.out rfl (by omega) u6 m (flatA aa) rfl (own_below HOR.out ((Below.refl _ _).alloc (Nat.le_refl _) _)) ⟨_, 0, none⟩ 1 1 [I 0, I 0, I 0, .bool bb] rfl rfl HNEW2.out (by intro u hu; simp at hu; rcases hu with rfl | rfl | rfl | rfl <;> rfl) (by unfold maxLen; omega) (by omega) (by rw [World.size_alloc]; first | omega | (simp; omega)) ?_
                     intro v9 w9 hown9 hgrow9 _ hat9)
                  | fail)
                have HQ9 := Lib.hid (HNX.out _ w9 v9 _ _ _ HJ.out HLL.out HAN.out hown9 hgrow9)
                clear hown9 hgrow9 hat9
                go_roundw
                case rel => exact ⟨k + 1, by omega, by go_num, HQ9.out⟩
                case measure => simp [intOf]; omega
              · skip
                go_wp2_with fail
                rw [HW.out]
                refine HB1.out.mono ?_
                rintro e w1 ⟨rfl, rfl⟩
                go_wp2_with fail
                refine HB2.out.mono ?_
                rintro e w1 ⟨rfl, rfl⟩
                have HG1 := Lib.hid g1
                have HG2 := Lib.hid g2
                clear g1 g2
                obtain ⟨W1, hW1⟩ : ∃ W1, W.setCell ⟨wr.heap.size + 1, 3, none⟩ (.bool bb) = W1 := ⟨_, rfl⟩
                have hk1 : ∀ x, x ≠ wr.heap.size + 1 → W1.heap[x]? = W.heap[x]? := fun x hx => by rw [← hW1]; exact Below.heap_setCell _ ⟨wr.heap.size + 1, 3, none⟩ _ _ hx
                have HM1 : Hid (HMb W1 w.heap.size k l) := HMW.out.keep (hk1 _ (by omega))
                have HQ1 : Hid (QK (fun x => x = wr.heap.size + 1 ∨ x = w.heap.size) W W1) := by show QK _ _ _; rw [← hW1]; exact (QK.refl _ W).set (.inl rfl) 3 _
                have HA1 : Hid (QAB W1 (wr.heap.size + 1) ⟨0, 0, 0, bb⟩) := by show QAB _ _ _; rw [← hW1]; exact (QAB.of_ab HAB.out).s3 bb
                have hop1 : W1.heap[wr.heap.size]? = some (.cells #[I 2, I ky, I vl] 39 (0, 0)) := (hk1 _ (by omega)).trans HOP.out
                have s0 : W1.cell? ⟨wr.heap.size, 0, none⟩ = some (I 2) := by simp [World.cell?, hop1]
                have s1 : W1.cell? ⟨wr.heap.size, 1, none⟩ = some (I ky) := by simp [World.cell?, hop1]
                have hv1 : W1.cell? ⟨w.heap.size + 1, 0, none⟩ = some (.map (some w.heap.size)) := ((HVW.out.keep (hk1 _ (by omega)))).cell
                have hW1' := hW1
                obtain ⟨e0, e1, e2, e3⟩ := HA1.out.cells
                simp only at e0 e1 e2 e3
                clear hk1 hop1 hW1
                have HLL : Hid (l = hL l (2, ky, vl)) := (hL_get (by show (2 : Int) ≠ 1; decide) (by show (2 : Int) ≠ 3; decide)).symm
                have HAN : Hid ((⟨0, 0, 0, bb⟩ : An) = hA l (2, ky, vl)) := (by show _ = _; rw [hA_is (by omega) HG2.out.1 HG2.out.2, HBB.out])
                have HJ : Hid (QJ w wr (W1) k ops u6 (l) (⟨0, 0, 0, bb⟩ : An)) := QJ.mk' HQI.out HBW.out HSZ.out (HQ1.out) (HM1.out.mono (by omega)) (HA1.out)
                have HOR : Hid ((W1).ownsRow (w.heap.size + 2) 36 4 u6 m (flatA aa)) := by have := HJ.out.out; unfold QOA at this; rw [HAA.out] at this; rw [← HAA.out, HM.out, HAA.out] at this; exact this
                have HNEW : Hid (∀ (j : Nat) (u : Value), ([I 0, I 0, I 0, .bool bb] : List Value)[j]? = some u → ((W1).alloc (anO (⟨0, 0, 0, bb⟩ : An))).cell? ((⟨(W1).heap.size, 0, none⟩ : Addr).add j) = some u) := fun j u hu => by
                  rw [addn]
                  have hnew := heap_alloc_new (W1) (anO (⟨0, 0, 0, bb⟩ : An))
                  rw [cell_of_row _ _ _ _ _ _ hnew]
                  simpa using hu
                have HNEW2 : Hid (∀ (j : Nat) (u : Value), ([I 0, I 0, I 0, .bool bb] : List Value)[j]? = some u → ((W1).alloc (anO (⟨0, 0, 0, bb⟩ : An))).cell? ((⟨W1.heap.size, 0, none⟩ : Addr).add j) = some u) := by
                  have h := HNEW.out
                  show ∀ (j : Nat) (u : Value), _
                  simpa only [World.size_setCell] using h
                have hz6 := HJ.out.sz
                go_wp2_with (first
                  | (at_builtin
                     refine wpList_append_own_at _ rfl (.tmp 67) (.tmp 69) 24 rfl (w.heap.size + 2) 36 i0 _ 4 32 Try.underlying24 HI.out HZ0.out HZ1.out HZ2.out rfl (by omega) u6 m (flatA aa) rfl (own_below HOR.out ((Below.refl _ _).alloc (Nat.le_refl _) _)) ⟨_, 0, none⟩ 1 1 [I 0, I 0, I 0, .bool bb] rfl rfl HNEW2.out (by intro u hu; simp at hu; rcases hu with rfl | rfl | rfl | rfl <;> rfl) (by unfold maxLen; omega) (by omega) (by rw [World.size_alloc]; first | omega | (simp; omega)) ?_
                     intro v9 w9 hown9 hgrow9 _ hat9)
                  | fail)
                have HQ9 := Lib.hid (HNX.out _ w9 v9 _ _ _ HJ.out HLL.out HAN.out hown9 hgrow9)
                clear hown9 hgrow9 hat9
                go_roundw
                case rel => exact ⟨k + 1, by omega, by go_num, HQ9.out⟩
                case measure => simp [intOf]; omega
              · skip
                go_wp2_with fail
                rw [HW.out]
                refine HB1.out.mono ?_
                rintro e w1 ⟨rfl, rfl⟩
                go_wp2_with fail
                refine HB2.out.mono ?_
                rintro e w1 ⟨rfl, rfl⟩
                have HG1 := Lib.hid g1
                have HG2 := Lib.hid g2
                clear g1 g2
                obtain ⟨W1, hW1⟩ : ∃ W1, W.setCell ⟨wr.heap.size + 1, 3, none⟩ (.bool bb) = W1 := ⟨_, rfl⟩
                have hk1 : ∀ x, x ≠ wr.heap.size + 1 → W1.heap[x]? = W.heap[x]? := fun x hx => by rw [← hW1]; exact Below.heap_setCell _ ⟨wr.heap.size + 1, 3, none⟩ _ _ hx
                have HM1 : Hid (HMb W1 w.heap.size k l) := HMW.out.keep (hk1 _ (by omega))
                have HQ1 : Hid (QK (fun x => x = wr.heap.size + 1 ∨ x = w.heap.size) W W1) := by show QK _ _ _; rw [← hW1]; exact (QK.refl _ W).set (.inl rfl) 3 _
                have HA1 : Hid (QAB W1 (wr.heap.size + 1) ⟨0, 0, 0, bb⟩) := by show QAB _ _ _; rw [← hW1]; exact (QAB.of_ab HAB.out).s3 bb
                have hop1 : W1.heap[wr.heap.size]? = some (.cells #[I 3, I ky, I vl] 39 (0, 0)) := (hk1 _ (by omega)).trans HOP.out
                have s0 : W1.cell? ⟨wr.heap.size, 0, none⟩ = some (I 3) := by simp [World.cell?, hop1]
                have s1 : W1.cell? ⟨wr.heap.size, 1, none⟩ = some (I ky) := by simp [World.cell?, hop1]
                have hv1 : W1.cell? ⟨w.heap.size + 1, 0, none⟩ = some (.map (some w.heap.size)) := ((HVW.out.keep (hk1 _ (by omega)))).cell
                have hW1' := hW1
                clear hk1 hop1 hW1
                obtain ⟨D, hD, hmd⟩ := HM1.out
                have HD := Lib.hid hD
                have HMD := Lib.hid hmd
                have hkey := keyOf_int_mk Try.underlying3 (wf_key hky)
                clear hD hmd
                go_wp2_with (first
                  | (at_delete; refine wpList_delete_own _ rfl _ _ 61 3 rfl 3 keyed_int Try.underlying61 (plainElem Try.prog 3) w.heap.size k D rfl HD.out _ _ rfl hkey ?_; intro w5 hown5 hturn5
                     have hm5 : HMb w5 w.heap.size k (qdel ky l) := ⟨_, hown5, hmD_del HMD.out ky⟩
                     have HM5 := Lib.hid hm5
                     have HQ5 := Lib.hid (HQ1.out.grown hturn5.grown (.inr rfl))
                     have HA5 := Lib.hid (HA1.out.keep (hturn5.grown.block _ (by have := HQ1.out.size; have := HSZ.out; omega) (fun e => by have := Option.some.inj e; omega)))
                     obtain ⟨e0, e1, e2, e3⟩ := HA5.out.cells
                     simp only at e0 e1 e2 e3
                     have HLL : Hid (qdel ky l = hL l (3, ky, vl)) := (hL_three HG2.out.1 HG2.out.2).symm
                     have HAN : Hid ((⟨0, 0, 0, bb⟩ : An) = hA l (3, ky, vl)) := (by show _ = _; rw [hA_is (by omega) HG2.out.1 HG2.out.2, HBB.out])
                     have HJ : Hid (QJ w wr (w5) k ops u6 (qdel ky l) (⟨0, 0, 0, bb⟩ : An)) := QJ.mk' HQI.out HBW.out HSZ.out (HQ5.out) (HM5.out.mono (by omega)) (HA5.out)
                     have HOR : Hid ((w5).ownsRow (w.heap.size + 2) 36 4 u6 m (flatA aa)) := by have := HJ.out.out; unfold QOA at this; rw [HAA.out] at this; rw [← HAA.out, HM.out, HAA.out] at this; exact this
                     have HNEW : Hid (∀ (j : Nat) (u : Value), ([I 0, I 0, I 0, .bool bb] : List Value)[j]? = some u → ((w5).alloc (anO (⟨0, 0, 0, bb⟩ : An))).cell? ((⟨(w5).heap.size, 0, none⟩ : Addr).add j) = some u) := fun j u hu => by
                       rw [addn]
                       have hnew := heap_alloc_new (w5) (anO (⟨0, 0, 0, bb⟩ : An))
                       rw [cell_of_row _ _ _ _ _ _ hnew]
                       simpa using hu
                     have HNEW2 : Hid (∀ (j : Nat) (u : Value), ([I 0, I 0, I 0, .bool bb] : List Value)[j]? = some u → ((w5).alloc (anO (⟨0, 0, 0, bb⟩ : An))).cell? ((⟨w5.heap.size, 0, none⟩ : Addr).add j) = some u) := by
                       have h := HNEW.out
                       show ∀ (j : Nat) (u : Value), _
                       simpa only [World.size_setCell] using h
                     have hz6 := HJ.out.sz
                     clear hown5 hturn5 hm5)
                  | (at_builtin
                     refine wpList_append_own_at _ rfl (.tmp 67) (.tmp 69) 24 rfl (w.heap.size + 2) 36 i0 _ 4 32 Try.underlying24 HI.out HZ0.out HZ1.out HZ2.out rfl (by omega) u6 m (flatA aa) rfl (own_below HOR.out ((Below.refl _ _).alloc (Nat.le_refl _) _)) ⟨_, 0, none⟩ 1 1 [I 0, I 0, I 0, .bool bb] rfl rfl HNEW2.out (by intro u hu; simp at hu; rcases hu with rfl | rfl | rfl | rfl <;> rfl) (by unfold maxLen; omega) (by omega) (by rw [World.size_alloc]; first | omega | (simp; omega)) ?_
                     intro v9 w9 hown9 hgrow9 _ hat9)
                  | fail)
                have HQ9 := Lib.hid (HNX.out _ w9 v9 _ _ _ HJ.out HLL.out HAN.out hown9 hgrow9)
                clear hown9 hgrow9 hat9
                go_roundw
                case rel => exact ⟨k + 1, by omega, by go_num, HQ9.out⟩
                case measure => simp [intOf]; omega
        · have HB1 := Lib.hid (Between_t kd 1 5 W (decide_eq_true g1))
          have HB2 := Lib.hid (Between_f ky 0 65535 W (decide_eq_false g2))
          go_wp2_with fail
          rw [HW.out]
          refine HB1.out.mono ?_
          rintro e w1 ⟨rfl, rfl⟩
          go_wp2_with fail
          refine HB2.out.mono ?_
          rintro e w1 ⟨rfl, rfl⟩
          have g3 := Lib.hid g2
          have HG1 := Lib.hid g1
          clear g1 g2 hsz
          have HLL : Hid (l = hL l (kd, ky, vl)) := (hL_no (fun e => g3.out ⟨e.2.2.1, e.2.2.2⟩)).symm
          have HAN : Hid ((⟨1, 0, 0, false⟩ : An) = hA l (kd, ky, vl)) := (by show _ = _; unfold hA; rw [if_neg (fun e => e HG1.out), if_pos g3.out])
          have HJ : Hid (QJ w wr (W.setCell ⟨wr.heap.size + 1, 0, none⟩ (.int .i64 1)) k ops u6 (l) (⟨1, 0, 0, false⟩ : An)) := QJ.mk' HQI.out HBW.out HSZ.out ((QK.refl _ W).set (.inl rfl) 0 _) ((HMW.out.keep (Below.heap_setCell _ _ _ _ (by show w.heap.size ≠ wr.heap.size + 1; omega))).mono (by omega)) ((QAB.of_ab HAB.out).s0 1)
          have HOR : Hid ((W.setCell ⟨wr.heap.size + 1, 0, none⟩ (.int .i64 1)).ownsRow (w.heap.size + 2) 36 4 u6 m (flatA aa)) := by have := HJ.out.out; unfold QOA at this; rw [HAA.out] at this; rw [← HAA.out, HM.out, HAA.out] at this; exact this
          have HNEW : Hid (∀ (j : Nat) (u : Value), ([I 1, I 0, I 0, .bool false] : List Value)[j]? = some u → ((W.setCell ⟨wr.heap.size + 1, 0, none⟩ (.int .i64 1)).alloc (anO (⟨1, 0, 0, false⟩ : An))).cell? ((⟨(W.setCell ⟨wr.heap.size + 1, 0, none⟩ (.int .i64 1)).heap.size, 0, none⟩ : Addr).add j) = some u) := fun j u hu => by
            rw [addn]
            have hnew := heap_alloc_new (W.setCell ⟨wr.heap.size + 1, 0, none⟩ (.int .i64 1)) (anO (⟨1, 0, 0, false⟩ : An))
            rw [cell_of_row _ _ _ _ _ _ hnew]
            simpa using hu
          have HNEW2 : Hid (∀ (j : Nat) (u : Value), ([I 1, I 0, I 0, .bool false] : List Value)[j]? = some u → ((W.setCell ⟨wr.heap.size + 1, 0, none⟩ (.int .i64 1)).alloc (anO (⟨1, 0, 0, false⟩ : An))).cell? ((⟨W.heap.size, 0, none⟩ : Addr).add j) = some u) := by
            have h := HNEW.out
            show ∀ (j : Nat) (u : Value), _
            simpa only [World.size_setCell] using h
          have hz6 := HJ.out.sz
          go_wp2_with (first
            | (at_builtin
               refine wpList_append_own_at _ rfl (.tmp 67) (.tmp 69) 24 rfl (w.heap.size + 2) 36 i0 _ 4 32 Try.underlying24 HI.out HZ0.out HZ1.out HZ2.out rfl (by omega) u6 m (flatA aa) rfl (own_below HOR.out ((Below.refl _ _).alloc (Nat.le_refl _) _)) ⟨_, 0, none⟩ 1 1 [I 1, I 0, I 0, .bool false] rfl rfl HNEW2.out (by intro u hu; simp at hu; rcases hu with rfl | rfl | rfl | rfl <;> rfl) (by unfold maxLen; omega) (by omega) (by rw [World.size_alloc]; first | omega | (simp; omega)) ?_
               intro v9 w9 hown9 hgrow9 _ hat9)
            | fail)
          have HQ9 := Lib.hid (HNX.out _ w9 v9 _ _ _ HJ.out HLL.out HAN.out hown9 hgrow9)
          clear hown9 hgrow9 hat9
          go_roundw
          case rel => exact ⟨k + 1, by omega, by go_num, HQ9.out⟩
          case measure => simp [intOf]; omega
      · have HB1 := Lib.hid (Between_f kd 1 5 W (decide_eq_false g1))
        go_wp2_with fail
        rw [HW.out]
        refine HB1.out.mono ?_
        rintro e w1 ⟨rfl, rfl⟩
        have g3 := Lib.hid g1
        clear g1 hsz
        have HLL : Hid (l = hL l (kd, ky, vl)) := (hL_no (fun e => g3.out ⟨e.1, e.2.1⟩)).symm
        have HAN : Hid ((⟨3, 0, 0, false⟩ : An) = hA l (kd, ky, vl)) := (by show _ = _; unfold hA; rw [if_pos g3.out])
        have HJ : Hid (QJ w wr (W.setCell ⟨wr.heap.size + 1, 0, none⟩ (.int .i64 3)) k ops u6 (l) (⟨3, 0, 0, false⟩ : An)) := QJ.mk' HQI.out HBW.out HSZ.out ((QK.refl _ W).set (.inl rfl) 0 _) ((HMW.out.keep (Below.heap_setCell _ _ _ _ (by show w.heap.size ≠ wr.heap.size + 1; omega))).mono (by omega)) ((QAB.of_ab HAB.out).s0 3)
        have HOR : Hid ((W.setCell ⟨wr.heap.size + 1, 0, none⟩ (.int .i64 3)).ownsRow (w.heap.size + 2) 36 4 u6 m (flatA aa)) := by have := HJ.out.out; unfold QOA at this; rw [HAA.out] at this; rw [← HAA.out, HM.out, HAA.out] at this; exact this
        have HNEW : Hid (∀ (j : Nat) (u : Value), ([I 3, I 0, I 0, .bool false] : List Value)[j]? = some u → ((W.setCell ⟨wr.heap.size + 1, 0, none⟩ (.int .i64 3)).alloc (anO (⟨3, 0, 0, false⟩ : An))).cell? ((⟨(W.setCell ⟨wr.heap.size + 1, 0, none⟩ (.int .i64 3)).heap.size, 0, none⟩ : Addr).add j) = some u) := fun j u hu => by
          rw [addn]
          have hnew := heap_alloc_new (W.setCell ⟨wr.heap.size + 1, 0, none⟩ (.int .i64 3)) (anO (⟨3, 0, 0, false⟩ : An))
          rw [cell_of_row _ _ _ _ _ _ hnew]
          simpa using hu
        have HNEW2 : Hid (∀ (j : Nat) (u : Value), ([I 3, I 0, I 0, .bool false] : List Value)[j]? = some u → ((W.setCell ⟨wr.heap.size + 1, 0, none⟩ (.int .i64 3)).alloc (anO (⟨3, 0, 0, false⟩ : An))).cell? ((⟨W.heap.size, 0, none⟩ : Addr).add j) = some u) := by
          have h := HNEW.out
          show ∀ (j : Nat) (u : Value), _
          simpa only [World.size_setCell] using h
        have hz6 := HJ.out.sz
        go_wp2_with (first
          | (at_builtin
             refine wpList_append_own_at _ rfl (.tmp 67) (.tmp 69) 24 rfl (w.heap.size + 2) 36 i0 _ 4 32 Try.underlying24 HI.out HZ0.out HZ1.out HZ2.out rfl (by omega) u6 m (flatA aa) rfl (own_below HOR.out ((Below.refl _ _).alloc (Nat.le_refl _) _)) ⟨_, 0, none⟩ 1 1 [I 3, I 0, I 0, .bool false] rfl rfl HNEW2.out (by intro u hu; simp at hu; rcases hu with rfl | rfl | rfl | rfl <;> rfl) (by unfold maxLen; omega) (by omega) (by rw [World.size_alloc]; first | omega | (simp; omega)) ?_
             intro v9 w9 hown9 hgrow9 _ hat9)
          | fail)
        have HQ9 := Lib.hid (HNX.out _ w9 v9 _ _ _ HJ.out HLL.out HAN.out hown9 hgrow9)
        clear hown9 hgrow9 hat9
        go_roundw
        case rel => exact ⟨k + 1, by omega, by go_num, HQ9.out⟩
        case measure => simp [intOf]; omega

    · have htk : ops.take k = ops := List.take_of_length_le (by rw [HLN.out]; omega)
      obtain ⟨wo, rfl⟩ : ∃ wo, wo = wr := ⟨_, rfl⟩
      have hmp := hqi.map
      have hou := hqi.out
      rw [htk] at hmp hou
      obtain ⟨D, hown, hmd⟩ := hmp
      have hvc := hqi.var.cell
      have HMD := Lib.hid hmd
      have HOWN := Lib.hid hown
      have HOU := Lib.hid hou
      have HBL := Lib.hid hqi.bel
      have hmsz : Maps.size D ≤ 300 := by have := hown.size_le; omega
      have HKS := Lib.hid (hR_up ops)
      clear hqi hown hmd hou htk hxl
      go_wp2_with (first
        | (at_range; refine wpList_range_own _ rfl _ 61 rfl 3 3 keyed_int Try.underlying61 (plainElem Try.prog 3) w.heap.size k D rfl HOWN.out ?_; intro w0 hrg0 hg0 hs0)
        | fail)
      go_frame
      have HB0 : Hid (Below wo.heap.size wo w0) := Below.grown (Below.refl _ _) hg0 (Nat.le_refl _) (fun i hi => by cases hi)
      have HRG0 := Lib.hid hrg0
      have HOU0 : Hid (QOA w0 (w.heap.size + 2) u6 (hR ops).2) := own_below HOU.out HB0.out
      clear hrg0 hg0
      go_loopw [10, 11] (fun v _ wq => ∃ (left : Lit → Bool) (cnt : Nat) (seen : List Int), wq.ranges Try.prog 3 (plainElem Try.prog 3) w.heap.size wo.heap.size k D left cnt ∧ QSn left (hR ops).1 seen ∧ seen.length + cnt ≤ 300 ∧ OwnI wq (wo.heap.size + 1) v seen ∧ Below wo.heap.size wo wq ∧ wo.heap.size + 1 ≤ wq.heap.size) (fun _ _ wq => wq.rangeLeft w.heap.size wo.heap.size)
      case atStart => exact ⟨has D, Maps.size D, [], HRG0.out, QSn.start HMD.out, by simpa using hmsz, World.ownsRow_nil _ _ _ _, HB0.out, by omega⟩
      case round =>
        obtain ⟨left, cnt, seen, hrg, hsn, hcnt, hoi, hbel, hqz⟩ := hrel
        have HRG := Lib.hid hrg
        have HSN := Lib.hid hsn
        have HOI := Lib.hid hoi
        have HBE := Lib.hid hbel
        clear hrg hsn hoi hbel
        go_wp2_with (first
          | (at_next; refine wpList_next_ranges_ii _ rfl _ rfl 3 3 .i64 .i64 keyed_int Try.underlying3 Try.underlying3 w.heap.size wo.heap.size k D left cnt rfl HRG.out ?_ ?_)
          | fail)
        · intro hc0 hl0
          have hall := HSN.out.all hl0
          obtain ⟨A4, c4, e4, his4, _⟩ := HOI.out.is_
          have HIS := Lib.hid his4
          have HKQ : Hid (qs seen = (hR ops).1) := by
            show _ = _
            have h1 := qs_gro _ seen (Nat.le_refl _) HSN.out.1
            refine up_ext (by rw [h1]; exact up_gro up_nil seen) HKS.out.1 fun x => ?_
            rw [h1, mem_gro, ← hall x]
            simp [Tr.ks]
          have HSK := Lib.hid (SortedKeys_more A4 seen.length c4 seen wr HIS.out (by omega) (fun x hx => (HKS.out.2 x ((hall x).1 hx)).1) HSN.out.1)
          rw [HKQ.out] at HSK
          have HOU1 : Hid (QOA wr (w.heap.size + 2) u6 (hR ops).2) := own_below HOU.out HBE.out
          rw [e4]
          clear hl0 hall e4 his4
          go_wp2_with fail
          refine HSK.out.mono ?_
          rintro e w7 ⟨v7, rfl, ho7, hb7⟩
          obtain ⟨A7, c7, rfl, his7, _⟩ := ho7.is_
          have HI7 := Lib.hid his7
          have HB7 := Lib.hid (HBL.out.trans ((HBE.out.trans (hb7.mono HBE.out.size)).mono HBL.out.size))
          have hou7 : QOA w7 (w.heap.size + 2) u6 (hR ops).2 := own_below HOU1.out hb7
          obtain ⟨A8, c8, e8, has8⟩ := hou7.as_
          have HA8 := Lib.hid has8
          have HE8 := Lib.hid e8
          clear ho7 his7 hb7 hou7 has8 e8
          go_wp2
          go_ret2
          exact ⟨_, _, _, A8, _, c8, by rw [HE8.out]; rfl, HI7.out, HA8.out, HB7.out⟩
        · intro x c w1 cnt1 hwx hwc hlx hat hrg1 hlt1 hg1 hs1 hen
          have hxl := qmet HMD.out hat
          have HS1 := Lib.hid (HSN.out.step hxl hlx)
          have HR1 := Lib.hid hrg1
          have hb1 : Below wo.heap.size wo w1 := Below.grown HBE.out hg1 (by omega) (fun i hi => by cases hi; omega)
          have HB1 := Lib.hid hb1
          have hoi1 : OwnI w1 (wo.heap.size + 1) u10 seen := qrow_of HOI.out fun g hg => hg1.block g (qrow_lt HOI.out g hg) (fun e => by have h1 := own_ge1 HOI.out g hg; have := Option.some.inj e; omega)
          have HO1 := Lib.hid hoi1
          have hsl : seen.length ≤ 300 := by omega
          have hz0 : wo.heap.size + 1 ≤ w1.heap.size := by omega
          have HSZ1 := Lib.hid hs1
          clear hat hrg1 hg1 hb1 hoi1 hwc hs1
          go_wp2_with (first
            | (at_builtin
               refine wpList_app1 rfl (.tmp 78) (.tmp 80) 23 rfl 3 Try.underlying23 int_info (wo.heap.size + 1) u10 seen [x] (some ⟨w1.heap.size, 0, none⟩) 1 1 rfl rfl (own_below HO1.out ((Below.refl _ _).alloc (Nat.le_refl _) _)) (srcI_one w1 x) (by omega) (by simp; omega) ?_
               intro v2 w2 hown2 hgrow2 hat2)
            | fail)
          have hz1 : (w1.alloc (.cells #[I x] 3)).heap.size = w1.heap.size + 1 := by simp
          have HB2 : Hid (Below wo.heap.size wo w2) := Below.grown (HB1.out.alloc HB1.out.size _) hgrow2 (by rw [World.size_alloc]; have := HB1.out.size; omega) (fun g hg => by have := own_ge1 HO1.out g hg; omega)
          have HR2 := Lib.hid ((HR1.out.alloc (.cells #[I x] 3)).kept hgrow2 (fun e => by have := own_ge1 HO1.out _ e.symm; have := HRG0.out.ne; omega) (fun e => by have := own_ge1 HO1.out _ e.symm; omega))
          have HO2 : Hid (OwnI w2 (wo.heap.size + 1) v2 (seen ++ [x])) := hown2
          have hz2 := hgrow2.size
          rw [World.size_alloc] at hz2
          clear hown2 hgrow2 hat2
          go_roundw
          case rel => exact ⟨_, cnt1, seen ++ [x], HR2.out, HS1.out, by rw [List.length_append]; simp; omega, HO2.out, HB2.out, by omega⟩
          case measure => rw [HR2.out.left_eq, HRG.out.left_eq]; omega

end Go.Proofs.Ytolfpjleckckiaa
