/-
  package half: one op that puts, gets or cuts; any op.
-/
import Derived.Test.YtpnjnedfcdppaaaGreatDoorQDo
namespace Go.Proofs.YtpnjnedfcdppaaaGreatDoor
open Go.RowKit Go.Maps

theorem DoHR.step {l : List Int} {o : Int × Int × Int} {T : Nat} {F F' : Nat → Prop} {w W2 w3 w4 : World} {p' : Option Nat} {v : Value} (hF : ∀ x, F x → x < w.heap.size) (hb : Below w.heap.size w W2) (hs : w.heap.size + 2 ≤ W2.heap.size)
    (hr : QR 4 w3 (T + 31) p' (· ∈ hL l o) F') (hl : ∀ x, F' x → x < w3.heap.size ∧ (F x ∨ W2.heap.size ≤ x)) (hk : QK F W2 w3) (hk4 : QK (fun x => x = w.heap.size + 1) w3 w4) (hv : v = anV (hA l o)) :
    DoHR l o T F w (.returned (.tuple #[qp p', v])) w4 := by
  subst hv
  refine ⟨p', F', rfl, hr.keep fun x hx => hk4.block x (hl x hx).1 (fun e => ?_), fun x hx => ⟨Nat.lt_of_lt_of_le (hl x hx).1 hk4.size, ?_⟩, ?_⟩
  · rcases (hl x hx).2 with h | h
    · have := hF x h; omega
    · omega
  · rcases (hl x hx).2 with h | h
    · exact .inl h
    · exact .inr (by omega)
  · have h1 : QK F w W2 := QK.of_below hb (Nat.le_refl _)
    exact (h1.trans hk (fun _ _ e => e) (fun _ _ e => e)).trans hk4 (fun _ _ e => e) (fun x hx e => by omega)
theorem hL_one {l : List Int} {key val : Int} (h0 : 0 ≤ key) (h1 : key ≤ 65535) : hL l (1, key, val) = qins key l := by
  unfold hL
  rw [if_pos ⟨by simp, by simp, h0, h1⟩, if_pos rfl]
theorem hL_three {l : List Int} {key val : Int} (h0 : 0 ≤ key) (h1 : key ≤ 65535) : hL l (3, key, val) = qdel key l := by
  unfold hL
  rw [if_pos ⟨by simp, by simp, h0, h1⟩, if_neg (by simp), if_pos rfl]
theorem hA_is {l : List Int} {kind key val : Int} (hk : kind = 1 ∨ kind = 2 ∨ kind = 3) (h0 : 0 ≤ key) (h1 : key ≤ 65535) : hA l (kind, key, val) = ⟨0, 0, 0, decide (key ∈ l)⟩ := by
  unfold hA
  rw [if_neg (by simp; omega), if_neg (by simp; omega), if_neg (by simp; omega), if_neg (by simp; omega)]

/-- the second answer's block -/
def AC (w : World) (g : Nat) (b : Bool) : Prop := w.heap[g]? = some (.cells #[I 0, I 0, I 0, .bool b] 51 (0, 0))
theorem AC.new (w : World) (b : Bool) : AC (w.alloc (.cells #[I 0, I 0, I 0, .bool b] 51)) w.heap.size b := heap_alloc_new w _
theorem AC.keep {w w' : World} {g : Nat} {b : Bool} (h : AC w g b) (e : w'.heap[g]? = w.heap[g]?) : AC w' g b := e.trans h
theorem AC.facts {w : World} {g : Nat} {b : Bool} (h : AC w g b) : w.cell? ⟨g, 0, none⟩ = some (I 0) ∧ w.cell? ⟨g, 1, none⟩ = some (I 0) ∧ w.cell? ⟨g, 2, none⟩ = some (I 0) ∧ w.cell? ⟨g, 3, none⟩ = some (.bool b) := by
  unfold AC at h
  refine ⟨?_, ?_, ?_, ?_⟩ <;> simp [World.cell?, h]

set_option maxRecDepth 100000 in
set_option maxHeartbeats 4000000 in
theorem do_is (p : Option Nat) (T : Nat) (l : List Int) (F : Nat → Prop) (kind key val : Int) (w : World) (h : QR 4 w T p (· ∈ l) F) (hF : ∀ x, F x → x < w.heap.size) (hk : kind = 1 ∨ kind = 2 ∨ kind = 3) (h0 : 0 ≤ key) (h1 : key ≤ 65535) (hT : T + 31 ≤ 1000000) :
    Calls Tryz.prog 77 #[qp p, .agg #[I kind, I key, I val]] w (DoHR l (kind, key, val) T F w) := by
  have HHA := Lib.hid (hA_is (l := l) (val := val) hk h0 h1)
  have HL1 : Hid (kind = 1 → hL l (kind, key, val) = qins key l) := fun e => by subst e; exact hL_one h0 h1
  have HL3 : Hid (kind = 3 → hL l (kind, key, val) = qdel key l) := fun e => by subst e; exact hL_three h0 h1
  have HL2 : Hid (kind = 2 → hL l (kind, key, val) = l) := fun e => hL_get (by show kind ≠ 1; omega) (by show kind ≠ 3; omega)
  have HL4 : Hid (kind = 3 → key ∉ l → hL l (kind, key, val) = l) := fun e hn => hL_cut0 e hn
  have H := Lib.hid h
  have HF := Lib.hid hF
  have HI := Lib.hid (fun W => qisKey_yes key W h0 h1)
  obtain ⟨W, hW⟩ : ∃ W, ((w.alloc (.cells #[I kind, I key, I val] 69)).alloc ansO) = W := ⟨_, rfl⟩
  have hb : Below w.heap.size w W := by rw [← hW]; exact ((Below.refl _ _).alloc (Nat.le_refl _) _).alloc (by simp) _
  have hab : AB W (w.heap.size + 1) := by
    rw [← hW]
    simpa using AB.new (w.alloc (.cells #[I kind, I key, I val] 69))
  have hop : W.heap[w.heap.size]? = some (.cells #[I kind, I key, I val] 69 (0, 0)) := by
    rw [← hW]
    have := heap_alloc_new w (.cells #[I kind, I key, I val] 69)
    exact (Below.heap_alloc _ _ _ (by simp)).trans this
  have hsz : W.heap.size = w.heap.size + 2 := by rw [← hW]; simp
  have HB := Lib.hid hb
  have HAB := Lib.hid hab
  have HOP := Lib.hid hop
  have hq4 : key < qq 4 := by rw [qq4]; omega
  have HHS := Lib.hid (has_any 4 (by omega) p T (· ∈ l) F key W (h.keep fun x hx => hb.block x (hF x hx)) h0 hq4)
  have HWI : Hid (∀ W2 : World, Below w.heap.size w W2 → Calls Tryz.prog 151 #[qp p, I key, I 16] W2 (WiR 4 T (QPut (· ∈ l) key) F W2)) :=
    fun W2 hb2 => with_any 4 (by omega) p T (· ∈ l) F key W2 (H.out.keep fun x hx => hb2.block x (HF.out x hx)) (fun x hx => Nat.lt_of_lt_of_le (HF.out x hx) hb2.size) h0 hq4 hT
  have HWO : Hid (∀ g, p = some g → key ∈ l → ∀ W2 : World, Below w.heap.size w W2 → Calls Tryz.prog 152 #[.pointer (some ⟨g, 0, none⟩), I key] W2 (WoR 4 T (QCut (· ∈ l) key) F W2)) :=
    fun g hg hm W2 hb2 => wout_any 4 (by omega) g T (· ∈ l) F key W2 (by have := H.out.keep fun x hx => hb2.block x (HF.out x hx); rw [hg] at this; exact this) (fun x hx => Nat.lt_of_lt_of_le (HF.out x hx) hb2.size) hm hT
  have HSO : Hid (key ∈ l → ∃ g, p = some g) := fun hm => H.out.some_of hm
  have HW := Lib.hid hW
  obtain ⟨P, hP⟩ : ∃ P, qp p = .pointer P := ⟨_, rfl⟩
  rw [hP] at HHS HWI ⊢
  have HP := Lib.hid hP
  clear h hF hP h0 h1 hb hab hop hW hq4
  rcases hk with rfl | rfl | rfl
  · skip
    have HL : Hid (hL l (1, key, val) = qins key l) := HL1.out rfl
    clear HL1 HL2 HL3 HL4
    go_enter Tryz.func77, Tryz.ntmps77
    go_wp2_with fail
    refine (HI.out _).mono ?_
    rintro e w1 ⟨rfl, rfl⟩
    go_wp2_with fail
    rw [HW.out]
    refine HHS.out.mono ?_
    rintro e w1 ⟨⟨b, rfl, hbm⟩, j, hj⟩
    have HBM : Hid (b = decide (key ∈ l)) := by show b = _; cases b <;> simp_all
    have hb1 : Below w.heap.size w w1 := by rw [hj]; exact below_drewN HB.out j
    have hh1 : w1.heap = W.heap := by rw [hj]; rfl
    have hop1 : w1.heap[w.heap.size]? = some (.cells #[I 1, I key, I val] 69 (0, 0)) := by rw [hh1]; exact HOP.out
    have hab1 : AB w1 (w.heap.size + 1) := by unfold AB; rw [hh1]; exact HAB.out
    have hs1 : w1.heap.size = w.heap.size + 2 := by rw [hh1]; exact hsz
    have hb2 : Below w.heap.size w (w1.alloc (.cells #[I 0, I 0, I 0, .bool b] 51)) := hb1.alloc (by omega) _
    have hop2 := (Below.heap_alloc w1 (.cells #[I 0, I 0, I 0, .bool b] 51) w.heap.size (by omega)).trans hop1
    have hab2 : AB (w1.alloc (.cells #[I 0, I 0, I 0, .bool b] 51)) (w.heap.size + 1) := (Below.heap_alloc w1 (.cells #[I 0, I 0, I 0, .bool b] 51) (w.heap.size + 1) (by omega)).trans hab1
    have hac2 := AC.new w1 b
    rw [hs1] at hac2
    have o0 : w1.cell? ⟨w.heap.size, 0, none⟩ = some (I 1) := by simp [World.cell?, hop1]
    have o1 : w1.cell? ⟨w.heap.size, 1, none⟩ = some (I key) := by simp [World.cell?, hop1]
    have HB2 := Lib.hid hb2
    have HO2 := Lib.hid hop2
    have HA2 := Lib.hid hab2
    have HC2 := Lib.hid hac2
    have hs2 : (w1.alloc (.cells #[I 0, I 0, I 0, .bool b] 51)).heap.size = w.heap.size + 3 := by simp [hs1]
    have HS2 := Lib.hid hs2
    clear hbm hj hb1 hh1 hop1 hab1 hb2 hop2 hab2 hac2 hs2 HHS HI
    go_wp2_with fail
    refine (HWI.out _ HB2.out).mono ?_
    rintro e w3 ⟨g3, F3, rfl, hr3, hl3, hk3⟩
    have keep : ∀ x, w.heap.size ≤ x ∧ x < w.heap.size + 3 → w3.heap[x]? = (w1.alloc (.cells #[I 0, I 0, I 0, .bool b] 51)).heap[x]? := fun x hx => hk3.block x (by have := HS2.out; omega) (fun e => by have := HF.out x e; omega)
    have hop3 : w3.heap[w.heap.size]? = some (.cells #[I 1, I key, I val] 69 (0, 0)) := (keep w.heap.size (by omega)).trans HO2.out
    have hab3 : AB w3 (w.heap.size + 1) := (keep (w.heap.size + 1) (by omega)).trans HA2.out
    have hac3 : AC w3 (w.heap.size + 2) b := (keep (w.heap.size + 2) (by omega)).trans HC2.out
    have p0 : w3.cell? ⟨w.heap.size, 0, none⟩ = some (I 1) := by simp [World.cell?, hop3]
    have p1 : w3.cell? ⟨w.heap.size, 1, none⟩ = some (I key) := by simp [World.cell?, hop3]
    obtain ⟨⟨a0, a1, a2, a3⟩, f0, f1, f2, f3⟩ := hab3.facts
    obtain ⟨q0, q1, q2, q3⟩ := hac3.facts
    have HEND : Hid (∀ w4, QK (fun x => x = w.heap.size + 1) w3 w4 → DoHR l (1, key, val) T F w (.returned (.tuple #[qp (some g3), anV ⟨0, 0, 0, b⟩])) w4) := fun w4 hk4 => by
      refine DoHR.step HF.out HB2.out (by have := HS2.out; omega) (F' := F3) ?_ hl3 hk3 hk4 (by rw [HHA.out, HBM.out])
      rw [HL.out, ← qput_list]
      exact hr3
    clear keep hr3 hl3 hk3 hop3 hab3 hac3 HWI HWO HSO
    go_wp2
    go_region
    all_goals go_wp2
    all_goals
      refine bodyPost_ret (v := .tuple #[.pointer (some ⟨g3, 0, none⟩), anV ⟨0, 0, 0, b⟩]) (by simp [results, Tryz.results77, go_sem, a0, a1, a2, a3]) rfl ?_
      refine HEND.out _ ?_
      exact (((((QK.refl (fun x => x = w.heap.size + 1) w3).set rfl 0 _).set rfl 1 _).set rfl 2 _).set rfl 3 _).drew
  · skip
    have HL : Hid (hL l (2, key, val) = l) := HL2.out rfl
    clear HL1 HL2 HL3 HL4
    go_enter Tryz.func77, Tryz.ntmps77
    go_wp2_with fail
    refine (HI.out _).mono ?_
    rintro e w1 ⟨rfl, rfl⟩
    go_wp2_with fail
    rw [HW.out]
    refine HHS.out.mono ?_
    rintro e w1 ⟨⟨b, rfl, hbm⟩, j, hj⟩
    have HBM : Hid (b = decide (key ∈ l)) := by show b = _; cases b <;> simp_all
    have hb1 : Below w.heap.size w w1 := by rw [hj]; exact below_drewN HB.out j
    have hh1 : w1.heap = W.heap := by rw [hj]; rfl
    have hop1 : w1.heap[w.heap.size]? = some (.cells #[I 2, I key, I val] 69 (0, 0)) := by rw [hh1]; exact HOP.out
    have hab1 : AB w1 (w.heap.size + 1) := by unfold AB; rw [hh1]; exact HAB.out
    have hs1 : w1.heap.size = w.heap.size + 2 := by rw [hh1]; exact hsz
    have hb2 : Below w.heap.size w (w1.alloc (.cells #[I 0, I 0, I 0, .bool b] 51)) := hb1.alloc (by omega) _
    have hop2 := (Below.heap_alloc w1 (.cells #[I 0, I 0, I 0, .bool b] 51) w.heap.size (by omega)).trans hop1
    have hab2 : AB (w1.alloc (.cells #[I 0, I 0, I 0, .bool b] 51)) (w.heap.size + 1) := (Below.heap_alloc w1 (.cells #[I 0, I 0, I 0, .bool b] 51) (w.heap.size + 1) (by omega)).trans hab1
    have hac2 := AC.new w1 b
    rw [hs1] at hac2
    have o0 : w1.cell? ⟨w.heap.size, 0, none⟩ = some (I 2) := by simp [World.cell?, hop1]
    have o1 : w1.cell? ⟨w.heap.size, 1, none⟩ = some (I key) := by simp [World.cell?, hop1]
    have HB2 := Lib.hid hb2
    have HO2 := Lib.hid hop2
    have HA2 := Lib.hid hab2
    have HC2 := Lib.hid hac2
    have hs2 : (w1.alloc (.cells #[I 0, I 0, I 0, .bool b] 51)).heap.size = w.heap.size + 3 := by simp [hs1]
    have HS2 := Lib.hid hs2
    clear hbm hj hb1 hh1 hop1 hab1 hb2 hop2 hab2 hac2 hs2 HHS HI
    have keep : ∀ x, w.heap.size ≤ x ∧ x < w.heap.size + 3 → (w1.alloc (.cells #[I 0, I 0, I 0, .bool b] 51)).heap[x]? = (w1.alloc (.cells #[I 0, I 0, I 0, .bool b] 51)).heap[x]? := fun x hx => rfl
    obtain ⟨w3, hw3⟩ : ∃ w3, w1.alloc (.cells #[I 0, I 0, I 0, .bool b] 51) = w3 := ⟨_, rfl⟩
    rw [hw3] at keep HB2 HO2 HA2 HC2 HS2
    have hop3 : w3.heap[w.heap.size]? = some (.cells #[I 2, I key, I val] 69 (0, 0)) := (keep w.heap.size (by omega)).trans HO2.out
    have hab3 : AB w3 (w.heap.size + 1) := (keep (w.heap.size + 1) (by omega)).trans HA2.out
    have hac3 : AC w3 (w.heap.size + 2) b := (keep (w.heap.size + 2) (by omega)).trans HC2.out
    have p0 : w3.cell? ⟨w.heap.size, 0, none⟩ = some (I 2) := by simp [World.cell?, hop3]
    have p1 : w3.cell? ⟨w.heap.size, 1, none⟩ = some (I key) := by simp [World.cell?, hop3]
    obtain ⟨⟨a0, a1, a2, a3⟩, f0, f1, f2, f3⟩ := hab3.facts
    obtain ⟨q0, q1, q2, q3⟩ := hac3.facts
    have HEND : Hid (∀ w4, QK (fun x => x = w.heap.size + 1) w3 w4 → DoHR l (2, key, val) T F w (.returned (.tuple #[qp p, anV ⟨0, 0, 0, b⟩])) w4) := fun w4 hk4 => by
      refine DoHR.step HF.out HB2.out (by have := HS2.out; omega) (F' := F) ?_ (fun x hx => ⟨Nat.lt_of_lt_of_le (HF.out x hx) HB2.out.size, .inl hx⟩) (QK.refl F w3) hk4 (by rw [HHA.out, HBM.out])
      rw [HL.out]
      exact (H.out.keep fun x hx => HB2.out.block x (HF.out x hx)).mono (by omega) (fun _ e => e)
    rw [HP.out] at HEND
    clear keep hop3 hab3 hac3 HWI HWO HSO
    go_wp2
    go_region
    all_goals go_wp2
    all_goals
      refine bodyPost_ret (v := .tuple #[.pointer P, anV ⟨0, 0, 0, b⟩]) (by simp [results, Tryz.results77, go_sem, hw3, a0, a1, a2, a3]) rfl ?_
      refine HEND.out _ ?_
      exact (((((QK.refl (fun x => x = w.heap.size + 1) w3).set rfl 0 _).set rfl 1 _).set rfl 2 _).set rfl 3 _).drew
  · skip
    have HL : Hid (hL l (3, key, val) = qdel key l) := HL3.out rfl
    have HLN : Hid (key ∉ l → hL l (3, key, val) = l) := HL4.out rfl
    clear HL1 HL2 HL3 HL4
    go_enter Tryz.func77, Tryz.ntmps77
    go_wp2_with fail
    refine (HI.out _).mono ?_
    rintro e w1 ⟨rfl, rfl⟩
    go_wp2_with fail
    rw [HW.out]
    refine HHS.out.mono ?_
    rintro e w1 ⟨⟨b, rfl, hbm⟩, j, hj⟩
    have HBM : Hid (b = decide (key ∈ l)) := by show b = _; cases b <;> simp_all
    have hb1 : Below w.heap.size w w1 := by rw [hj]; exact below_drewN HB.out j
    have hh1 : w1.heap = W.heap := by rw [hj]; rfl
    have hop1 : w1.heap[w.heap.size]? = some (.cells #[I 3, I key, I val] 69 (0, 0)) := by rw [hh1]; exact HOP.out
    have hab1 : AB w1 (w.heap.size + 1) := by unfold AB; rw [hh1]; exact HAB.out
    have hs1 : w1.heap.size = w.heap.size + 2 := by rw [hh1]; exact hsz
    have hb2 : Below w.heap.size w (w1.alloc (.cells #[I 0, I 0, I 0, .bool b] 51)) := hb1.alloc (by omega) _
    have hop2 := (Below.heap_alloc w1 (.cells #[I 0, I 0, I 0, .bool b] 51) w.heap.size (by omega)).trans hop1
    have hab2 : AB (w1.alloc (.cells #[I 0, I 0, I 0, .bool b] 51)) (w.heap.size + 1) := (Below.heap_alloc w1 (.cells #[I 0, I 0, I 0, .bool b] 51) (w.heap.size + 1) (by omega)).trans hab1
    have hac2 := AC.new w1 b
    rw [hs1] at hac2
    have o0 : w1.cell? ⟨w.heap.size, 0, none⟩ = some (I 3) := by simp [World.cell?, hop1]
    have o1 : w1.cell? ⟨w.heap.size, 1, none⟩ = some (I key) := by simp [World.cell?, hop1]
    have HB2 := Lib.hid hb2
    have HO2 := Lib.hid hop2
    have HA2 := Lib.hid hab2
    have HC2 := Lib.hid hac2
    have hs2 : (w1.alloc (.cells #[I 0, I 0, I 0, .bool b] 51)).heap.size = w.heap.size + 3 := by simp [hs1]
    have HS2 := Lib.hid hs2
    clear hbm hj hb1 hh1 hop1 hab1 hb2 hop2 hab2 hac2 hs2 HHS HI
    cases b with
    | false =>
      go_wp2
      obtain ⟨w3, hw3⟩ : ∃ w3, w1.alloc (.cells #[I 0, I 0, I 0, .bool false] 51) = w3 := ⟨_, rfl⟩
      have hw3' : w1.alloc (.cells #[.int .i64 0, .int .i64 0, .int .i64 0, .bool false] 51) = w3 := hw3
      rw [hw3] at HB2 HA2 HC2 HS2
      rw [hw3']
      clear hw3 hw3' HO2 o0 o1
      obtain ⟨⟨a0, a1, a2, a3⟩, f0, f1, f2, f3⟩ := HA2.out.facts
      obtain ⟨q0, q1, q2, q3⟩ := HC2.out.facts
      have HEND : Hid (∀ w4, QK (fun x => x = w.heap.size + 1) w3 w4 → DoHR l (3, key, val) T F w (.returned (.tuple #[qp p, anV ⟨0, 0, 0, false⟩])) w4) := fun w4 hk4 => by
        refine DoHR.step HF.out HB2.out (by have := HS2.out; omega) (F' := F) ?_ (fun x hx => ⟨Nat.lt_of_lt_of_le (HF.out x hx) HB2.out.size, .inl hx⟩) (QK.refl F _) hk4 (by rw [HHA.out, HBM.out])
        rw [HLN.out (fun hm => by have := HBM.out; simp [hm] at this)]
        exact (H.out.keep fun x hx => HB2.out.block x (HF.out x hx)).mono (by omega) (fun _ e => e)
      rw [HP.out] at HEND
      clear HWI HWO HSO
      go_region
      all_goals go_wp2
      all_goals
        refine bodyPost_ret (v := .tuple #[.pointer P, anV ⟨0, 0, 0, false⟩]) (by simp [results, Tryz.results77, go_sem, a0, a1, a2, a3]) rfl ?_
        refine HEND.out _ ?_
        exact (((((QK.refl (fun x => x = w.heap.size + 1) w3).set rfl 0 _).set rfl 1 _).set rfl 2 _).set rfl 3 _).drew
    | true =>
      have hmem : key ∈ l := by have := HBM.out; simpa using this.symm
      obtain ⟨g, hg⟩ := HSO.out hmem
      have hPg : P = some ⟨g, 0, none⟩ := by have := HP.out; rw [hg] at this; cases this; rfl
      subst hPg
      go_wp2_with fail
      refine (HWO.out g hg hmem _ HB2.out).mono ?_
      rintro e w3 ⟨po, F3, rfl, hr3, hl3, hk3⟩
      have keep : ∀ x, w.heap.size ≤ x ∧ x < w.heap.size + 3 → w3.heap[x]? = (w1.alloc (.cells #[I 0, I 0, I 0, .bool true] 51)).heap[x]? := fun x hx => hk3.block x (by have := HS2.out; omega) (fun e => by have := HF.out x e; omega)
      have hop3 : w3.heap[w.heap.size]? = some (.cells #[I 3, I key, I val] 69 (0, 0)) := (keep w.heap.size (by omega)).trans HO2.out
      have hab3 : AB w3 (w.heap.size + 1) := (keep (w.heap.size + 1) (by omega)).trans HA2.out
      have hac3 : AC w3 (w.heap.size + 2) true := (keep (w.heap.size + 2) (by omega)).trans HC2.out
      have p0 : w3.cell? ⟨w.heap.size, 0, none⟩ = some (I 3) := by simp [World.cell?, hop3]
      have p1 : w3.cell? ⟨w.heap.size, 1, none⟩ = some (I key) := by simp [World.cell?, hop3]
      obtain ⟨⟨a0, a1, a2, a3⟩, f0, f1, f2, f3⟩ := hab3.facts
      obtain ⟨q0, q1, q2, q3⟩ := hac3.facts
      have HEND : Hid (∀ w4, QK (fun x => x = w.heap.size + 1) w3 w4 → DoHR l (3, key, val) T F w (.returned (.tuple #[qp po, anV ⟨0, 0, 0, true⟩])) w4) := fun w4 hk4 => by
        refine DoHR.step HF.out HB2.out (by have := HS2.out; omega) (F' := F3) ?_ hl3 hk3 hk4 (by rw [HHA.out, HBM.out])
        rw [HL.out, ← qcut_list]
        exact hr3
      clear keep hr3 hl3 hk3 hop3 hab3 hac3 HWI HWO HSO
      obtain ⟨PO, hPO⟩ : ∃ PO, qp po = .pointer PO := ⟨_, rfl⟩
      rw [hPO] at HEND ⊢
      clear hPO
      go_wp2
      go_region
      all_goals go_wp2
      all_goals
        refine bodyPost_ret (v := .tuple #[.pointer PO, anV ⟨0, 0, 0, true⟩]) (by simp [results, Tryz.results77, go_sem, a0, a1, a2, a3]) rfl ?_
        refine HEND.out _ ?_
        exact (((((QK.refl (fun x => x = w.heap.size + 1) w3).set rfl 0 _).set rfl 1 _).set rfl 2 _).set rfl 3 _).drew
theorem do_any (p : Option Nat) (T : Nat) (l : List Int) (F : Nat → Prop) (kind key val : Int) (w : World) (h : QR 4 w T p (· ∈ l) F) (hF : ∀ x, F x → x < w.heap.size) (hu : Up l) (hT : T + 31 ≤ 1000000) :
    Calls Tryz.prog 77 #[qp p, .agg #[I kind, I key, I val]] w (DoHR l (kind, key, val) T F w) := by
  by_cases hk : 1 ≤ kind ∧ kind ≤ 5
  · by_cases hb : 0 ≤ key ∧ key ≤ 65535
    · by_cases h4 : kind = 4 ∨ kind = 5
      · exact do_near p T l F kind key val w h hF hu h4 hb.1 hb.2
      · exact do_is p T l F kind key val w h hF (by omega) hb.1 hb.2 hT
    · exact do_arg p T l F kind key val w h hF hk hb
  · exact do_form p T l F kind key val w h hF hk

end Go.Proofs.YtpnjnedfcdppaaaGreatDoor
