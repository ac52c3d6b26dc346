/-
  Joined texts: YtolfpjleckckiaaRun, YtolfpjleckckiaaRunA.
-/
import Derived.Test.YtolfpjleckckiaaDoLook
import Derived.Test.YtolfpjleckckiaaAns
/-
  Run.
-/
namespace Go.Proofs.Ytolfpjleckckiaa
open Go.RowKit

theorem doL_len (l : PL) (kind key val : Int) : (doL l kind key val).length ≤ 200 := by
  unfold doL
  by_cases hc : chk l = 0
  · have h2 := chk_len hc
    rw [if_neg (by simpa using hc)]
    split
    · exact h2
    · split
      · unfold putL
        split
        · simpa using h2
        · split
          · exact h2
          · have := cnt_le l key
            simp
            omega
      · split
        · unfold cutL
          split
          · simp
            omega
          · exact h2
        · exact h2
  · rw [if_pos hc]; simp

def stepR (s : PL × List An) (o : OP) : PL × List An := (doL s.1 o.1 o.2.1 o.2.2, s.2 ++ [doA s.1 o.1 o.2.1])
def runR (ops : List OP) : PL × List An := ops.foldl stepR ([], [])
theorem runR_succ (ops : List OP) (k : Nat) (h : k < ops.length) : runR (ops.take (k + 1)) = stepR (runR (ops.take k)) ops[k] := by
  rw [List.take_succ_eq_append_getElem h, runR, List.foldl_append]
  rfl
theorem runR_len (ops : List OP) : (runR ops).2.length = ops.length := by
  have h : ∀ (s : PL × List An), (ops.foldl stepR s).2.length = s.2.length + ops.length := by
    induction ops with
    | nil => intro s; simp
    | cons o t ih => intro s; rw [List.foldl_cons, ih]; simp [stepR]; omega
  simpa [runR] using h ([], [])

theorem ans_info : (Try.prog.info? 36).map (fun i => (i.zero, i.size, i.bytes)) = some (some (.agg #[I 0, I 0, I 0, .bool false]), 4, 32) := by kernel_rfl

/-- what the answers' row holds behind k rounds -/
def ansTo (ops : List OP) (k : Nat) : List An := (runR (ops.take k)).2 ++ List.replicate (ops.length - k) an0
theorem ansTo_len (ops : List OP) (k : Nat) (h : k ≤ ops.length) : (ansTo ops k).length = ops.length := by
  simp [ansTo, runR_len]; omega
theorem ansTo_succ (ops : List OP) (k : Nat) (h : k < ops.length) : (ansTo ops k).set k (doA (runR (ops.take k)).1 ops[k].1 ops[k].2.1) = ansTo ops (k + 1) := by
  unfold ansTo
  have hl : (runR (ops.take k)).2.length = k := by simp [runR_len]; omega
  rw [List.set_append_right _ _ (by omega), hl, Nat.sub_self, show ops.length - k = ops.length - (k + 1) + 1 by omega, List.replicate_succ, List.set_cons_zero, runR_succ ops k h]
  simp [stepR]

/-- the map so far: a slice of the call's own, or none -/
def Own5 (B : Nat) (w : World) (l : PL) (v : Value) : Prop := ∃ A n c, v = .slice A n c ∧ PS w A n c l ∧ ∀ ad, A = some ad → B ≤ ad.block
def RetRun (l : PL) (a : List An) (er : Int) (w : World) (e : Ending) (w' : World) : Prop :=
  ∃ A n c A' n' c', e = .returned (.tuple #[.slice A n c, .slice A' n' c', I er]) ∧ PS w' A n c l ∧ AS w' A' n' c' a ∧ Below w.heap.size w w'

set_option maxRecDepth 100000 in
set_option maxHeartbeats 1000000 in
theorem Run_any (A : Option Addr) (n c : Nat) (ops : List OP) (w : World) (h : OS w A n c ops) (hn : n ≤ 300) :
    Calls Try.prog 14 #[.slice A n c] w (RetRun (runR ops).1 (runR ops).2 0 w) := by
  have hmk := fun W => run_makeA (P := Try.prog) 24 36 Try.underlying24 ans_info n (by omega) W
  have H := Lib.hid h
  have Hlen := Lib.hid h.len
  clear h
  have hb0 : Below w.heap.size w (w.alloc (.cells (flatA (List.replicate n an0)).toArray 36)) := (Below.refl _ _).alloc (Nat.le_refl _) _
  have hq0 : QB (w.alloc (.cells (flatA (List.replicate n an0)).toArray 36)) w.heap.size 36 (ansTo ops 0) := by
    have : ansTo ops 0 = List.replicate n an0 := by simp [ansTo, runR, Hlen.out]
    rw [this]
    exact QB.new _ _ _
  have HB0 := Lib.hid hb0
  have HQ0 := Lib.hid hq0
  clear hb0 hq0
  go_enter Try.func14, Try.ntmps14
  go_wp2
  go_loopw [5, 17] (fun v i wr => ∃ k : Nat, k ≤ n ∧ i = .int .i64 k ∧ Own5 (w.heap.size + 1) wr (runR (ops.take k)).1 v ∧ QB wr w.heap.size 36 (ansTo ops k) ∧ Below w.heap.size w wr) (fun _ i _ => n - (intOf i).toNat)
  case atStart => exact ⟨0, Nat.zero_le _, rfl, ⟨none, 0, 0, rfl, ⟨by simp [runR], Rd.none_⟩, fun _ h => by cases h⟩, HQ0.out, HB0.out⟩
  case round =>
    obtain ⟨k, hk, rfl, ⟨A5, n5, c5, rfl, hps, hfr⟩, hq, hnx⟩ := hrel
    have hsz := hnx.size
    have hqlt := hq.lt
    by_cases hlt : k < n
    · obtain ⟨b, off, rfl, hb, hc⟩ := H.out.at_ (by omega)
      have hkl : k < ops.length := by have := Hlen.out; omega
      have hc0 : wr.cell? ⟨b, off + k * 3, none⟩ = some (I ops[k].1) := (hnx.cell (by exact hb)).trans (hc k hlt).1
      have hc1 : wr.cell? ⟨b, off + k * 3 + 1, none⟩ = some (I ops[k].2.1) := (hnx.cell (by exact hb)).trans (hc k hlt).2.1
      have hc2 : wr.cell? ⟨b, off + k * 3 + 2, none⟩ = some (I ops[k].2.2) := (hnx.cell (by exact hb)).trans (hc k hlt).2.2
      have HPS := Lib.hid hps
      have HFR := Lib.hid hfr
      have HQ := Lib.hid hq
      have HNX := Lib.hid hnx
      have HQL := Lib.hid hqlt
      have hn5 : n5 ≤ 200 := by
        have := hps.len
        rcases Nat.eq_zero_or_pos k with h0 | h0
        · subst h0; simp [runR] at this; omega
        · have e := runR_succ ops (k - 1) (by omega)
          rw [show k - 1 + 1 = k by omega] at e
          rw [e] at this
          have h3 := doL_len (runR (ops.take (k - 1))).1 (ops[k - 1]).1 (ops[k - 1]).2.1 (ops[k - 1]).2.2
          simp only [stepR] at this
          omega
      clear hc hps hfr hq hnx hmk hqlt
      go_wp2_with fail
      have hba : Below wr.heap.size wr (wr.alloc (.cells #[I ops[k].1, I ops[k].2.1, I ops[k].2.2] 39)) := (Below.refl _ _).alloc (Nat.le_refl _) _
      refine (Do_any A5 n5 c5 (runR (ops.take k)).1 ops[k].1 ops[k].2.1 ops[k].2.2 _ (HPS.out.below hba) (by omega)).mono ?_
      rintro e w2 ⟨A6, n6, c6, rfl, hps6, hb6, hfr6⟩
      have hbr : Below wr.heap.size wr w2 := hba.trans (hb6.mono (by simp))
      have hq2 : QB w2 w.heap.size 36 (ansTo ops k) := HQ.out.below hbr HQL.out
      have hal : k < (ansTo ops k).length := by rw [ansTo_len ops k (by omega)]; exact hkl
      have hcc := flatA_at (ansTo ops k) k hal
      have a0 := (hq2.cell _).trans hcc.1
      have a1 := (hq2.cell _).trans hcc.2.1
      have a2 := (hq2.cell _).trans hcc.2.2.1
      have a3 := (hq2.cell _).trans hcc.2.2.2
      have f0 := hq2.frozen (k * 4)
      have f1 := hq2.frozen (k * 4 + 1)
      have f2 := hq2.frozen (k * 4 + 2)
      have f3 := hq2.frozen (k * 4 + 3)
      have hset := hq2.set k (doA (runR (ops.take k)).1 ops[k].1 ops[k].2.1) hal
      rw [ansTo_succ ops k hkl] at hset
      have HSET := Lib.hid hset
      have hfr7 : ∀ ad, A6 = some ad → w.heap.size + 1 ≤ ad.block := fun ad h => by
        have h1 := hfr6 ad h
        have h2 := HQL.out
        simp at h1
        omega
      have HFR7 := Lib.hid hfr7
      have HP6 := Lib.hid hps6
      have HB2 := Lib.hid (HNX.out.trans (hbr.mono HNX.out.size))
      have hrs := runR_succ ops k hkl
      have HRS := Lib.hid hrs
      clear hba hb6 hfr6 hps6 hbr hq2 hcc hset hfr7 hrs
      go_wp2
      go_roundw
      case rel =>
        refine ⟨k + 1, by omega, by go_num, ⟨A6, n6, c6, rfl, ?_, HFR7.out⟩, HSET.out, ?_⟩
        · rw [HRS.out]
          have hA : ∀ ad, A6 = some ad → ad.block ≠ w.heap.size := fun ad h => by have := HFR7.out ad h; omega
          exact (((HP6.out.far (p := ⟨w.heap.size, k * 4, none⟩) hA _).far (p := ⟨w.heap.size, k * 4 + 1, none⟩) hA _).far (p := ⟨w.heap.size, k * 4 + 2, none⟩) hA _).far (p := ⟨w.heap.size, k * 4 + 3, none⟩) hA _
        · exact (((HB2.out.setCell (by simp) _).setCell (by simp) _).setCell (by simp) _).setCell (by simp) _
      case measure => simp [intOf]; omega
    · have hkn : k = n := by omega
      subst hkn
      have htk : ops.take k = ops := List.take_of_length_le (by have := Hlen.out; omega)
      have hat : ansTo ops k = (runR ops).2 := by unfold ansTo; rw [htk, Hlen.out]; simp
      rw [htk] at hps
      rw [hat] at hq
      have has := hq.as_ (c := k) (by rw [runR_len, Hlen.out]; exact Nat.le_refl _)
      rw [runR_len, Hlen.out] at has
      have HPS := Lib.hid hps
      have HAS := Lib.hid has
      have HNX := Lib.hid hnx
      clear hps has hnx hq hat htk hfr hqlt hmk
      go_wp2
      go_ret3
      exact ⟨_, _, _, _, _, _, rfl, HPS.out, HAS.out, HNX.out⟩

set_option maxRecDepth 100000 in
set_option maxHeartbeats 1000000 in
theorem Run_large (A : Option Addr) (n c : Nat) (w : World) (hn : 300 < n) (hm : n ≤ 9223372036854775807) :
    Calls Try.prog 14 #[.slice A n c] w (RetRun [] [] 2 w) := by
  go_enter Try.func14, Try.ntmps14
  go_wp2
  go_ret3
  exact ⟨none, 0, 0, none, 0, 0, rfl, ⟨rfl, Rd.none_⟩, ⟨rfl, Rd.none_⟩, Below.refl _ _⟩

end Go.Proofs.Ytolfpjleckckiaa

/-
  The answers of plain.Run, one by one; an op, an answer as blocks.
-/
namespace Go.Proofs.Ytolfpjleckckiaa
open Go.RowKit

theorem fold_ans : ∀ (ops : List OP) (s : PL × List An), (ops.foldl stepR s).2 = s.2 ++ (ops.foldl stepR (s.1, [])).2
  | [], s => by simp
  | o :: ops, s => by
    rw [List.foldl_cons, List.foldl_cons, fold_ans ops (stepR s o), fold_ans ops (stepR (s.1, []) o)]
    simp [stepR]
theorem runR_ans (ops : List OP) (k : Nat) (h : k < ops.length) : (runR ops).2[k]'(by rw [runR_len]; exact h) = doA (runR (ops.take k)).1 ops[k].1 ops[k].2.1 := by
  have e : runR ops = (ops.drop (k + 1)).foldl stepR (stepR (runR (ops.take k)) ops[k]) := by
    rw [← runR_succ ops k h]
    unfold runR
    rw [← List.foldl_append, List.take_append_drop]
  have hl : (runR (ops.take k)).2.length = k := by rw [runR_len]; simp; omega
  have e2 : (runR ops).2 = ((runR (ops.take k)).2 ++ [doA (runR (ops.take k)).1 ops[k].1 ops[k].2.1]) ++ ((ops.drop (k + 1)).foldl stepR ((stepR (runR (ops.take k)) ops[k]).1, [])).2 := by
    rw [e, fold_ans]
    rfl
  have : (runR ops).2[k]? = some (doA (runR (ops.take k)).1 ops[k].1 ops[k].2.1) := by
    rw [e2, List.getElem?_append_left (by simp [hl]), List.getElem?_append_right (by omega), hl]
    simp
  rw [List.getElem?_eq_getElem (by rw [runR_len]; exact h)] at this
  exact Option.some.inj this

abbrev opO (kind key val : Int) : Obj := .cells #[I kind, I key, I val] 39
abbrev anO (a : An) : Obj := .cells #[I a.e, I a.k, I a.v, .bool a.b] 36

end Go.Proofs.Ytolfpjleckckiaa
