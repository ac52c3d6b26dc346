/-
  Joined texts: YtpnjnedfcdppaaaGreatDoorDNum, YtpnjnedfcdppaaaGreatDoorDJoin, YtpnjnedfcdppaaaGreatDoorDNums.
-/
import Derived.Test.YtpnjnedfcdppaaaGreatDoorDLaid
import Derived.IntWalk
import Derived.BigQuiet
import Derived.Deep.DeepCutAuto
import Derived.BigRegion
/-
  The desk's words: count, must, numberOf, numbersOf, errorText, kindOf, orNone.
-/
namespace Go.Proofs.YtpnjnedfcdppaaaGreatDoor
open Go.RowKit

theorem must_ok (w : World) : Calls Tryz.prog 158 #[I 0] w fun e w' => e = .returned (.tuple #[]) ∧ w = w' := by
  go_enter Tryz.func158, Tryz.ntmps158
  go_wp2
  go_end0
  exact ⟨rfl, rfl⟩
theorem must_bad (er : Int) (h : er ≠ 0) (w : World) : Calls Tryz.prog 158 #[I er] w fun e w' => e = .panicked (slipC er) ∧ w = w' := by
  have hne : (er != 0) = true := by simp; exact h
  clear h
  go_enter Tryz.func158, Tryz.ntmps158
  go_wp2
  exact ⟨rfl, rfl, rfl⟩
theorem count_ok (A : Option Addr) (n c : Nat) (w : World) : Calls Tryz.prog 97 #[.slice A n c, I n] w fun e w' => e = .returned (.tuple #[]) ∧ w = w' := by
  go_enter Tryz.func97, Tryz.ntmps97
  go_wp2
  go_end0
  exact ⟨rfl, rfl⟩
theorem count_bad (A : Option Addr) (n c m : Nat) (h : n ≠ m) (w : World) : Calls Tryz.prog 97 #[.slice A n c, I m] w fun e w' => e = .panicked (slipC 1) ∧ w = w' := by
  have hne : ((n : Int) != (m : Int)) = true := by simp; omega
  clear h
  go_enter Tryz.func97, Tryz.ntmps97
  go_wp2
  exact ⟨rfl, rfl, rfl⟩
theorem orNone_some (l : List UInt8) (h : l ≠ []) (w : World) : Calls Tryz.prog 162 #[.string (bsv l)] w fun e w' => e = .returned (.string (bsv l)) ∧ w = w' := by
  have hne : l.isEmpty = false := by cases l with | nil => exact absurd rfl h | cons a t => rfl
  clear h
  go_enter Tryz.func162, Tryz.ntmps162
  go_wp2
  go_ret
  exact ⟨rfl, rfl⟩
theorem orNone_none (w : World) : Calls Tryz.prog 162 #[.string (bsv [])] w fun e w' => e = .returned (.string (bsv [110, 111, 110, 101])) ∧ w = w' := by
  go_enter Tryz.func162, Tryz.ntmps162
  go_wp2
  go_ret
  exact ⟨rfl, rfl⟩
def orN (l : List UInt8) : List UInt8 := if l = [] then [110, 111, 110, 101] else l
theorem orNone_any (l : List UInt8) (w : World) : Calls Tryz.prog 162 #[.string (bsv l)] w fun e w' => e = .returned (.string (bsv (orN l))) ∧ w = w' := by
  by_cases h : l = []
  · subst h
    exact orNone_none w
  · refine (orNone_some l h w).mono fun e w' ⟨he, hw⟩ => ⟨?_, hw⟩
    rw [he]
    unfold orN
    rw [if_neg h]
theorem dgF_len : ∀ (f n : Nat), (dgF f n).length ≤ f
  | 0, _ => Nat.le_refl _
  | f + 1, n => by
    rw [dgF]
    split
    · simp
    · have := dgF_len f (n / 10)
      simp
      omega
theorem dg_len (n : Nat) : (dg n).length ≤ 20 := dgF_len 20 n
def errT (e : Nat) : List UInt8 := [101, 114, 114, 111, 114, 32] ++ dg e
theorem errorText_any (er : Nat) (h : er < 1000000000000000000) (w : World) (hL : LD w) : Calls Tryz.prog 43 #[I er] w fun e w' => e = .returned (.string (bsv (errT er))) ∧ Below w.heap.size w w' := by
  have HI := Lib.hid (itoa_any er h w hL)
  have HA := Lib.hid (bsv_app [101, 114, 114, 111, 114, 32] (dg er))
  have hlen : ¬ 9223372036854775807 < 6 + (dg er).length := by have := dg_len er; omega
  clear hL
  go_enter Tryz.func43, Tryz.ntmps43
  go_wp2_with fail
  refine HI.out.mono ?_
  rintro e w1 ⟨rfl, hb⟩
  have HB := Lib.hid hb
  clear hb
  go_wp2
  go_ret
  exact ⟨congrArg (fun x => Ending.returned (Value.string x)) HA.out, HB.out⟩
def kindB (l : List UInt8) : Nat := if l = [112, 117, 116] then 1 else if l = [103, 101, 116] then 2 else if l = [99, 117, 116] then 3 else if l = [110, 101, 120, 116] then 4 else if l = [112, 114, 101, 118] then 5 else if l = [99, 111, 117, 110, 116] then 6 else if l = [110, 116, 104] then 7 else 0
set_option maxRecDepth 100000 in
theorem kindOf_any (l : List UInt8) (w : World) : Calls Tryz.prog 92 #[.string (bsv l)] w fun e w' => e = .returned (I (kindB l)) ∧ w = w' := by
  have f : ∀ m, (l == m) = decide (l = m) := fun m => by rw [Bool.eq_iff_iff]; simp
  by_cases h1 : l = [112, 117, 116]
  · have HK : Hid (kindB l = 1) := by show _ = _; unfold kindB; rw [if_pos h1]
    have g1 : (l == [112, 117, 116]) = true := by rw [f]; simp [h1]
    clear f h1
    go_enter Tryz.func92, Tryz.ntmps92
    go_wp2
    go_ret
    exact ⟨by rw [HK.out]; rfl, rfl⟩
  by_cases h2 : l = [103, 101, 116]
  · have HK : Hid (kindB l = 2) := by show _ = _; unfold kindB; rw [if_neg h1]; rw [if_pos h2]
    have g1 : (l == [112, 117, 116]) = false := by rw [f]; simp [h1]
    have g2 : (l == [103, 101, 116]) = true := by rw [f]; simp [h2]
    clear f h1 h2
    go_enter Tryz.func92, Tryz.ntmps92
    go_wp2
    go_ret
    exact ⟨by rw [HK.out]; rfl, rfl⟩
  by_cases h3 : l = [99, 117, 116]
  · have HK : Hid (kindB l = 3) := by show _ = _; unfold kindB; rw [if_neg h1]; rw [if_neg h2]; rw [if_pos h3]
    have g1 : (l == [112, 117, 116]) = false := by rw [f]; simp [h1]
    have g2 : (l == [103, 101, 116]) = false := by rw [f]; simp [h2]
    have g3 : (l == [99, 117, 116]) = true := by rw [f]; simp [h3]
    clear f h1 h2 h3
    go_enter Tryz.func92, Tryz.ntmps92
    go_wp2
    go_ret
    exact ⟨by rw [HK.out]; rfl, rfl⟩
  by_cases h4 : l = [110, 101, 120, 116]
  · have HK : Hid (kindB l = 4) := by show _ = _; unfold kindB; rw [if_neg h1]; rw [if_neg h2]; rw [if_neg h3]; rw [if_pos h4]
    have g1 : (l == [112, 117, 116]) = false := by rw [f]; simp [h1]
    have g2 : (l == [103, 101, 116]) = false := by rw [f]; simp [h2]
    have g3 : (l == [99, 117, 116]) = false := by rw [f]; simp [h3]
    have g4 : (l == [110, 101, 120, 116]) = true := by rw [f]; simp [h4]
    clear f h1 h2 h3 h4
    go_enter Tryz.func92, Tryz.ntmps92
    go_wp2
    go_ret
    exact ⟨by rw [HK.out]; rfl, rfl⟩
  by_cases h5 : l = [112, 114, 101, 118]
  · have HK : Hid (kindB l = 5) := by show _ = _; unfold kindB; rw [if_neg h1]; rw [if_neg h2]; rw [if_neg h3]; rw [if_neg h4]; rw [if_pos h5]
    have g1 : (l == [112, 117, 116]) = false := by rw [f]; simp [h1]
    have g2 : (l == [103, 101, 116]) = false := by rw [f]; simp [h2]
    have g3 : (l == [99, 117, 116]) = false := by rw [f]; simp [h3]
    have g4 : (l == [110, 101, 120, 116]) = false := by rw [f]; simp [h4]
    have g5 : (l == [112, 114, 101, 118]) = true := by rw [f]; simp [h5]
    clear f h1 h2 h3 h4 h5
    go_enter Tryz.func92, Tryz.ntmps92
    go_wp2
    go_ret
    exact ⟨by rw [HK.out]; rfl, rfl⟩
  by_cases h6 : l = [99, 111, 117, 110, 116]
  · have HK : Hid (kindB l = 6) := by show _ = _; unfold kindB; rw [if_neg h1]; rw [if_neg h2]; rw [if_neg h3]; rw [if_neg h4]; rw [if_neg h5]; rw [if_pos h6]
    have g1 : (l == [112, 117, 116]) = false := by rw [f]; simp [h1]
    have g2 : (l == [103, 101, 116]) = false := by rw [f]; simp [h2]
    have g3 : (l == [99, 117, 116]) = false := by rw [f]; simp [h3]
    have g4 : (l == [110, 101, 120, 116]) = false := by rw [f]; simp [h4]
    have g5 : (l == [112, 114, 101, 118]) = false := by rw [f]; simp [h5]
    have g6 : (l == [99, 111, 117, 110, 116]) = true := by rw [f]; simp [h6]
    clear f h1 h2 h3 h4 h5 h6
    go_enter Tryz.func92, Tryz.ntmps92
    go_wp2
    go_ret
    exact ⟨by rw [HK.out]; rfl, rfl⟩
  by_cases h7 : l = [110, 116, 104]
  · have HK : Hid (kindB l = 7) := by show _ = _; unfold kindB; rw [if_neg h1]; rw [if_neg h2]; rw [if_neg h3]; rw [if_neg h4]; rw [if_neg h5]; rw [if_neg h6]; rw [if_pos h7]
    have g1 : (l == [112, 117, 116]) = false := by rw [f]; simp [h1]
    have g2 : (l == [103, 101, 116]) = false := by rw [f]; simp [h2]
    have g3 : (l == [99, 117, 116]) = false := by rw [f]; simp [h3]
    have g4 : (l == [110, 101, 120, 116]) = false := by rw [f]; simp [h4]
    have g5 : (l == [112, 114, 101, 118]) = false := by rw [f]; simp [h5]
    have g6 : (l == [99, 111, 117, 110, 116]) = false := by rw [f]; simp [h6]
    have g7 : (l == [110, 116, 104]) = true := by rw [f]; simp [h7]
    clear f h1 h2 h3 h4 h5 h6 h7
    go_enter Tryz.func92, Tryz.ntmps92
    go_wp2
    go_ret
    exact ⟨by rw [HK.out]; rfl, rfl⟩
  · have HK : Hid (kindB l = 0) := by show _ = _; unfold kindB; rw [if_neg h1]; rw [if_neg h2]; rw [if_neg h3]; rw [if_neg h4]; rw [if_neg h5]; rw [if_neg h6]; rw [if_neg h7]
    have g1 : (l == [112, 117, 116]) = false := by rw [f]; simp [h1]
    have g2 : (l == [103, 101, 116]) = false := by rw [f]; simp [h2]
    have g3 : (l == [99, 117, 116]) = false := by rw [f]; simp [h3]
    have g4 : (l == [110, 101, 120, 116]) = false := by rw [f]; simp [h4]
    have g5 : (l == [112, 114, 101, 118]) = false := by rw [f]; simp [h5]
    have g6 : (l == [99, 111, 117, 110, 116]) = false := by rw [f]; simp [h6]
    have g7 : (l == [110, 116, 104]) = false := by rw [f]; simp [h7]
    clear f h1 h2 h3 h4 h5 h6 h7
    go_enter Tryz.func92, Tryz.ntmps92
    go_wp2
    go_ret
    exact ⟨by rw [HK.out]; rfl, rfl⟩
/- numbers -/
theorem nmA_none {v : Nat} {b : UInt8} {t : List UInt8} (h : ¬ (48 ≤ b.toNat ∧ b.toNat ≤ 57)) : nmA v (b :: t) = none := by rw [nmA, if_neg h]
theorem nmA_some {v : Nat} {b : UInt8} {t : List UInt8} (h : 48 ≤ b.toNat ∧ b.toNat ≤ 57) : nmA v (b :: t) = nmA (v * 10 + (b.toNat - 48)) t := by rw [nmA, if_pos h]
def NumR (r : Option Nat) (w : World) (e : Ending) (w' : World) : Prop := w = w' ∧ match r with | some n => e = .returned (I n) | none => e = .panicked (slipC 1)
theorem pow7 {k v : Nat} (hk : k < 7) (h : v < 10 ^ k) : v < 1000000 := Nat.lt_of_lt_of_le h (Nat.le_trans (Nat.pow_le_pow_right (by omega) (show k ≤ 6 by omega)) (by decide))
theorem pow_next {k v d : Nat} (h : v < 10 ^ k) (hd : d ≤ 9) : v * 10 + d < 10 ^ (k + 1) := by rw [Nat.pow_succ]; omega
set_option maxRecDepth 100000 in
set_option maxHeartbeats 2000000 in
theorem numberOf_any (s : ByteArray) (w : World) : Calls Tryz.prog 163 #[.string s] w (NumR (nmb s.data.toList) w) := by
  have hsz : s.size = s.data.toList.length := by rw [Array.length_toList]; rfl
  by_cases h7 : 7 < s.size
  · have HR : Hid (nmb s.data.toList = none) := by show _ = _; unfold nmb; rw [if_pos (by omega)]
    have h7i : decide (7 < (s.size : Int)) = true := by simp; omega
    clear hsz
    go_enter Tryz.func163, Tryz.ntmps163
    go_wp2
    refine ⟨rfl, rfl, ?_⟩
    rw [HR.out]
    exact rfl
  · obtain ⟨R, hR⟩ : ∃ R, nmb s.data.toList = R := ⟨_, rfl⟩
    rw [hR]
    have HR : Hid (nmA 0 s.data.toList = R) := by show _ = _; rw [← hR]; unfold nmb; rw [if_neg (by omega)]
    have HS := Lib.hid hsz
    have h7i : decide (7 < (s.size : Int)) = false := by simp; omega
    clear hR hsz
    go_enter Tryz.func163, Tryz.ntmps163
    go_wp2
    go_loop [3, 11] (fun sv iv => ∃ k v : Nat, k ≤ s.size ∧ iv = .int .i64 k ∧ sv = .int .i64 v ∧ Hid (v < 10 ^ k) ∧ Hid (nmA v (s.data.toList.drop k) = R)) (fun _ iv => s.size - (intOf iv).toNat)
    case atStart => exact ⟨0, 0, Nat.zero_le _, rfl, rfl, by show 0 < 10 ^ 0; decide, HR.out⟩
    case round =>
      obtain ⟨k, v, hk, rfl, rfl, HV, HN⟩ := hrel
      by_cases hlt : k < s.size
      · have hkl : k < s.data.toList.length := by rw [← HS.out]; exact hlt
        have hd : s.data.toList.drop k = s[k] :: s.data.toList.drop (k + 1) := List.drop_eq_getElem_cons hkl
        have hv := pow7 (show k < 7 by omega) HV.out
        by_cases c1 : (s[k].toNat : Int) < 48
        · have HF : Hid (R = none) := by show _ = _; rw [← HN.out, hd, nmA_none (by omega)]
          clear hd
          go_wp2
          refine ⟨rfl, rfl, ?_⟩
          rw [HF.out]
          exact rfl
        · by_cases c2 : 57 < (s[k].toNat : Int)
          · have HF : Hid (R = none) := by show _ = _; rw [← HN.out, hd, nmA_none (by omega)]
            clear hd
            go_wp2
            refine ⟨rfl, rfl, ?_⟩
            rw [HF.out]
            exact rfl
          · obtain ⟨d, hd9, hdd⟩ : ∃ d : Nat, d ≤ 9 ∧ s[k].toNat = d + 48 := ⟨s[k].toNat - 48, by omega, by omega⟩
            have HF : Hid (nmA (v * 10 + d) (s.data.toList.drop (k + 1)) = R) := by
              show _ = _
              rw [← HN.out, hd, nmA_some (by omega), hdd]
              congr 1
            have HP := Lib.hid (pow_next HV.out hd9)
            have hw : IntKind.u8.wrap ((s[k].toNat : Int) - 48) = (d : Int) := by rw [hdd, IntKind.wrap_u8]; omega
            clear hd
            have HDD := Lib.hid hdd
            clear hdd
            go_wp2
            go_round
            case rel => exact ⟨k + 1, v * 10 + d, by omega, by go_num, by go_num, HP, HF⟩
            case measure => simp [intOf]; omega
      · have hfull : s.data.toList.drop k = [] := List.drop_eq_nil_of_le (by rw [← HS.out]; omega)
        have HF : Hid (R = some v) := by show _ = _; rw [← HN.out, hfull]; rfl
        clear hfull
        go_wp2
        go_ret
        refine ⟨rfl, ?_⟩
        rw [HF.out]
        exact rfl
end Go.Proofs.YtpnjnedfcdppaaaGreatDoor

/-
  The desk's words: rows of texts of the call's own; strings.Join, joined.
-/
namespace Go.Proofs.YtpnjnedfcdppaaaGreatDoor
open Go.RowKit

def TBk (w : World) (g : Nat) (L : List (List UInt8)) : Prop := w.heap[g]? = some (.cells (L.map fun x => Value.string (bsv x)).toArray 9 (0, 0))
theorem TBk.lt {w : World} {g : Nat} {L : List (List UInt8)} (h : TBk w g L) : g < w.heap.size := (Array.getElem?_eq_some_iff.1 h).1
theorem TBk.cell {w : World} {g : Nat} {L : List (List UInt8)} (h : TBk w g L) (i : Nat) : w.cell? ⟨g, i, none⟩ = L[i]?.map fun x => Value.string (bsv x) := by
  unfold TBk at h
  simp [World.cell?, h]
theorem TBk.frozen {w : World} {g : Nat} {L : List (List UInt8)} (h : TBk w g L) (i : Nat) : w.frozen? ⟨g, i, none⟩ = false := by
  unfold TBk at h
  simp [World.frozen?, h]
theorem TBk.below {w w' : World} {g B : Nat} {L : List (List UInt8)} (h : TBk w g L) (hb : Below B w w') (hg : g < B) : TBk w' g L := (hb.block g hg).trans h
theorem TBk.new (w : World) (L : List (List UInt8)) : TBk (w.alloc (.cells (L.map fun x => Value.string (bsv x)).toArray 9)) w.heap.size L := heap_alloc_new w _
theorem TBk.set {w : World} {g : Nat} {L : List (List UInt8)} (h : TBk w g L) (i : Nat) (x : List UInt8) : TBk (w.setCell ⟨g, i, none⟩ (.string (bsv x))) g (L.set i x) := by
  unfold TBk at *
  rw [setCell_eq_setRow w g i _ 9 (0, 0) (.string (bsv x)) h, setRow_heap w g _ _ 9 (0, 0) h]
  simp [List.map_set]
theorem str_info : (Tryz.prog.info? 9).map (fun i => (i.zero, i.size, i.bytes)) = some (some (.string ⟨#[]⟩), 1, 16) := by kernel_rfl
theorem run_makeT (n c : Nat) (hn : n ≤ c) (hc : c ≤ 1000000) (w : World) :
    (Instr.makeSlice 30 (.int .i64 (n : Int)) (.int .i64 (c : Int))).run Tryz.prog w = .ok (.slice (some ⟨w.heap.size, 0, none⟩) n c) (w.alloc (.cells ((List.replicate c ([] : List UInt8)).map fun x => Value.string (bsv x)).toArray 9)) := by
  obtain ⟨i, h1, hz, hs, hb⟩ := info_parts str_info
  have := run_make (P := Tryz.prog) w 30 9 i _ Tryz.underlying30 h1 hz .i64 .i64 n c (by omega) (by omega) (by rw [hb]; omega) (by omega)
  rw [this, hs]
  simp only [Int.toNat_natCast]
  have e : madeCells (Value.string ⟨#[]⟩).cells (c * 1) = ((List.replicate c ([] : List UInt8)).map fun x => Value.string (bsv x)).toArray := by
    rw [Nat.mul_one, List.map_replicate]
    apply Array.ext
    · simp [madeCells]
    · intro i h1 h2
      simp [madeCells, Value.cells, Nat.mod_one]
  rw [e]

theorem joinTail_len (sep : List UInt8) : ∀ xs : List (List UInt8), (Lib.joinTail sep xs).length = (xs.map List.length).sum + xs.length * sep.length
  | [] => by simp [Lib.joinTail]
  | x :: r => by
    have h := joinTail_len sep r
    unfold Lib.joinTail at h ⊢
    simp only [List.map_cons, List.flatten_cons, List.length_append, h, List.sum_cons, List.length_cons]
    rw [Nat.add_mul]
    omega
theorem join_len (sep : List UInt8) (xs : List (List UInt8)) : (Lib.join xs sep).length ≤ (xs.map List.length).sum + xs.length * sep.length := by
  cases xs with
  | nil => simp [Lib.join_nil]
  | cons x r =>
    rw [Lib.join_cons, List.length_append, joinTail_len]
    simp only [List.map_cons, List.sum_cons, List.length_cons, Nat.add_mul]
    omega
theorem sum_le_of {α : Type} {f : α → Nat} {b : Nat} : ∀ {xs : List α}, (∀ x ∈ xs, f x ≤ b) → (xs.map f).sum ≤ xs.length * b
  | [], _ => by simp
  | x :: r, h => by
    have h1 := sum_le_of (xs := r) fun y hy => h y (List.mem_cons_of_mem _ hy)
    have h2 := h x List.mem_cons_self
    simp only [List.map_cons, List.sum_cons, List.length_cons, Nat.add_mul]
    omega
theorem djoin_any (g n c : Nat) (L : List (List UInt8)) (sep : List UInt8) (w : World) (h : TBk w g L) (hn : L.length = n) (hc : n ≤ c) (hl : (Lib.join L sep).length ≤ 140737488355328) (hn2 : n ≤ 1000000) :
    Calls Tryz.prog 109 #[.slice (some ⟨g, 0, none⟩) n c, .string (bsv sep)] w fun e w' => e = .returned (.string (bsv (Lib.join L sep))) ∧ Below w.heap.size w w' := by
  subst hn
  have e : (L.map bsv).map (·.data.toList) = L := by
    rw [List.map_map]
    have : ((fun x : ByteArray => x.data.toList) ∘ bsv) = id := by funext x; simp
    rw [this, List.map_id]
  have hh := Tryz.strings_Join g 0 c (L.map bsv) (bsv sep) w (fun j x hx => by
    rw [List.getElem?_map] at hx
    have e1 : (⟨g, 0 + j, none⟩ : Addr) = ⟨g, j, none⟩ := by congr 1; omega
    rw [e1, h.cell]
    cases hq : L[j]? with
    | none => rw [hq] at hx; cases hx
    | some y => rw [hq] at hx; cases hx; rfl) h.lt (by rw [List.length_map]; omega) (by rw [List.length_map]; exact hc) (by rw [e]; simpa using hl)
  rw [List.length_map, e] at hh
  have e2 : (bsv sep).data.toList = sep := by simp
  rw [e2] at hh
  exact hh
end Go.Proofs.YtpnjnedfcdppaaaGreatDoor

/-
  The desk: joined, numbersOf, opOf.
-/
namespace Go.Proofs.YtpnjnedfcdppaaaGreatDoor
open Go.RowKit

def jnd (l : List Int) : List UInt8 := Lib.join (l.map fun x => dg x.toNat) [32]
theorem jnd_len {l : List Int} (h : l.length ≤ 3000) : (jnd l).length ≤ 100000 := by
  unfold jnd
  have h1 := join_len [32] (l.map fun x => dg x.toNat)
  have h2 : ((l.map fun x => dg x.toNat).map List.length).sum ≤ (l.map fun x => dg x.toNat).length * 20 := sum_le_of fun x hx => by
    obtain ⟨y, _, rfl⟩ := List.mem_map.mp hx
    exact dg_len _
  simp only [List.length_map, List.length_singleton, Nat.mul_one] at h1 h2
  omega
def txs (l : List Int) (k n : Nat) : List (List UInt8) := (l.take k).map (fun x => dg x.toNat) ++ List.replicate (n - k) []
theorem txs_next {l : List Int} {k n : Nat} (hk : k < l.length) (hn : l.length = n) : (txs l k n).set k (dg l[k].toNat) = txs l (k + 1) n := by
  unfold txs
  have h1 : (List.map (fun x : Int => dg x.toNat) (l.take k)).length = k := by simp; omega
  rw [List.set_append_right _ _ (by rw [h1]; exact Nat.le_refl _), h1, Nat.sub_self, List.take_succ_eq_append_getElem hk, List.map_append, List.append_assoc]
  congr 1
  obtain ⟨m, hm⟩ : ∃ m, n - k = m + 1 := ⟨n - k - 1, by omega⟩
  have h2 : n - (k + 1) = m := by omega
  rw [hm, h2]
  rfl
theorem txs_full {l : List Int} {n : Nat} (hn : l.length = n) : txs l n n = l.map fun x => dg x.toNat := by
  unfold txs
  rw [List.take_of_length_le (by omega), Nat.sub_self]
  simp
set_option maxRecDepth 100000 in
set_option maxHeartbeats 4000000 in
theorem joined_any (A : Option Addr) (n c : Nat) (l : List Int) (w : World) (h : IS w A n c l) (hn : n ≤ 3000) (hp : ∀ x ∈ l, 0 ≤ x ∧ x < 1000000000000000000) (hL : LD w) :
    Calls Tryz.prog 159 #[.slice A n c] w fun e w' => e = .returned (.string (bsv (jnd l))) ∧ Below w.heap.size w w' := by
  have H := Lib.hid h
  have HL := Lib.hid h.len
  have HP := Lib.hid hp
  have HLD := Lib.hid hL
  have hmk := fun w => run_makeT n n (Nat.le_refl _) (by omega) w
  clear h hp hL
  go_enter Tryz.func159, Tryz.ntmps159
  go_wp2
  go_loopw [11] (fun iv wr => ∃ k : Nat, k ≤ n ∧ iv = .int .i64 k ∧ Hid (TBk wr w.heap.size (txs l k n)) ∧ Hid (Below w.heap.size w wr)) (fun iv _ => n - (intOf iv).toNat)
  case atStart =>
    refine ⟨0, Nat.zero_le _, rfl, ?_, (Below.refl _ _).alloc (Nat.le_refl _) _⟩
    have e : txs l 0 n = List.replicate n [] := by simp [txs]
    rw [e]
    have := TBk.new w (List.replicate n [])
    show TBk _ _ _
    simpa using this
  case round =>
    obtain ⟨k, hk, rfl, HT, HB⟩ := hrel
    by_cases hlt : k < n
    · obtain ⟨b, off, rfl, hb, hc⟩ := H.out.at_ (by omega)
      have hkl : k < l.length := by rw [HL.out]; exact hlt
      have hck : wr.cell? ⟨b, off + k, none⟩ = some (I l[k]) := (HB.out.cell (p := ⟨b, off + k, none⟩) hb).trans (hc k hlt)
      have hx := HP.out _ (List.getElem_mem hkl)
      have HN := Lib.hid (txs_next hkl HL.out)
      obtain ⟨x, hx0⟩ : ∃ x, l[k] = x := ⟨_, rfl⟩
      rw [hx0] at hck hx HN
      obtain ⟨y, rfl⟩ : ∃ y : Nat, x = y := ⟨x.toNat, by omega⟩
      rw [Int.toNat_natCast] at HN
      have HI := Lib.hid (itoa_any y (by omega) wr (HLD.out.next HB.out))
      clear hc hx0
      go_wp2_with fail
      refine HI.out.mono ?_
      rintro e w2 ⟨rfl, hb2⟩
      have ht2 := HT.out.below hb2 HT.out.lt
      have HT2 := Lib.hid ht2
      have hcell := ht2.cell k
      have hkt : k < (txs l k n).length := by unfold txs; simp; omega
      rw [List.getElem?_eq_getElem hkt, Option.map_some] at hcell
      have hfz := ht2.frozen k
      have HB2 := Lib.hid (HB.out.trans (hb2.mono HB.out.size))
      clear hb2 ht2
      go_wp2
      go_roundw
      case rel =>
        refine ⟨k + 1, by omega, by go_num, ?_, HB2.out.setCell (p := ⟨w.heap.size, k, none⟩) (Nat.le_refl _) _⟩
        rw [← HN.out]
        exact HT2.out.set _ _
      case measure => simp [intOf]; omega
    · obtain rfl : n = k := by omega
      have ht := HT.out
      rw [txs_full HL.out] at ht
      have HJ := Lib.hid (djoin_any w.heap.size n n _ [32] wr ht (by rw [List.length_map]; exact HL.out) (Nat.le_refl _) (by have := jnd_len (l := l) (by rw [HL.out]; exact hn); unfold jnd at this; omega) (by omega))
      clear ht
      go_wp2_with fail
      refine HJ.out.mono ?_
      rintro e w2 ⟨rfl, hb2⟩
      have HB2 := Lib.hid (HB.out.trans (hb2.mono HB.out.size))
      clear hb2
      go_wp2
      go_ret
      exact ⟨rfl, HB2.out⟩

/- numbers out of words -/
def nmsL : List (List UInt8) → Option (List Nat)
  | [] => some []
  | x :: t => match nmb x with | none => none | some n => (nmsL t).map (n :: ·)
def nms (many : Nat) (l : List (List UInt8)) : Option (List Nat) := if l.length = many then nmsL l else none
def RetNs (r : Option (List Nat)) (w : World) (e : Ending) (w' : World) : Prop :=
  match r with
  | some ks => ∃ g, e = .returned (.slice (some ⟨g, 0, none⟩) ks.length ks.length) ∧ IB w' g 3 (ks.map fun n : Nat => (n : Int)) ∧ w.heap.size ≤ g ∧ Below w.heap.size w w'
  | none => e = .panicked (slipC 1) ∧ Below w.heap.size w w'
theorem nmsL_len : ∀ {l : List (List UInt8)} {ks : List Nat}, nmsL l = some ks → ks.length = l.length
  | [], ks, h => by cases h; rfl
  | x :: t, ks, h => by
    unfold nmsL at h
    cases hx : nmb x with
    | none => rw [hx] at h; cases h
    | some n =>
      rw [hx] at h
      cases ht : nmsL t with
      | none => rw [ht] at h; cases h
      | some r => rw [ht] at h; cases h; simp [nmsL_len ht]
def nrow (ks : List Nat) (n : Nat) : List Int := ks.map (fun n : Nat => (n : Int)) ++ List.replicate (n - ks.length) 0
theorem nrow_next {ks : List Nat} {n k x : Nat} (hk : ks.length = k) (hn : k < n) : (nrow ks n).set k (x : Int) = nrow (ks ++ [x]) n := by
  unfold nrow
  have h1 : (List.map (fun n : Nat => (n : Int)) ks).length = k := by simp; exact hk
  rw [List.set_append_right _ _ (by rw [h1]; exact Nat.le_refl _), h1, Nat.sub_self, List.map_append, List.append_assoc]
  congr 1
  obtain ⟨m, hm⟩ : ∃ m, n - ks.length = m + 1 := ⟨n - ks.length - 1, by omega⟩
  have h2 : n - (ks ++ [x]).length = m := by simp; omega
  rw [hm, h2]
  rfl
set_option maxRecDepth 100000 in
set_option maxHeartbeats 4000000 in
theorem numbersOf_any (A : Option Addr) (n c many : Nat) (l : List (List UInt8)) (w : World) (h : WS w A n c l) (hm : many ≤ 1000) :
    Calls Tryz.prog 96 #[.slice A n c, I many] w (RetNs (nms many l) w) := by
  by_cases hlen : n = many
  · subst hlen
    have H := Lib.hid h
    have HL := Lib.hid h.len
    have HC := Lib.hid (count_ok A n c w)
    obtain ⟨R, hR⟩ : ∃ R, nmsL l = R := ⟨_, rfl⟩
    have hRR : nms n l = R := by unfold nms; rw [if_pos h.len, hR]
    rw [hRR]
    have HR := Lib.hid hR
    have hmk := fun w => run_makeI (P := Tryz.prog) 46 3 Tryz.underlying46 int_info n n (Nat.le_refl _) (by omega) w
    clear h hR hRR
    go_enter Tryz.func96, Tryz.ntmps96
    go_wp2_with fail
    refine HC.out.mono ?_
    rintro e w1 ⟨rfl, hw1⟩
    subst hw1
    go_wp2
    go_loopw [15] (fun iv wr => ∃ (k : Nat) (ks : List Nat), k ≤ n ∧ iv = .int .i64 k ∧ Hid (ks.length = k) ∧ Hid ((nmsL (l.drop k)).map (ks ++ ·) = R) ∧ Hid (IB wr w.heap.size 3 (nrow ks n)) ∧ Hid (Below w.heap.size w wr)) (fun iv _ => n - (intOf iv).toNat)
    case atStart =>
      refine ⟨0, [], Nat.zero_le _, rfl, rfl, ?_, ?_, (Below.refl _ _).alloc (Nat.le_refl _) _⟩
      · rw [List.drop_zero, HR.out]
        show Option.map _ R = R
        cases R <;> simp
      · have e : nrow [] n = List.replicate n 0 := by simp [nrow]
        rw [e]
        have := IB.new w 3 (List.replicate n 0)
        show IB _ _ _ _
        simpa using this
    case round =>
      obtain ⟨k, ks, hk, rfl, HK, HN, HT, HB⟩ := hrel
      by_cases hlt : k < n
      · obtain ⟨b, off, rfl, hb, hc⟩ := H.out.at_ (by omega)
        have hkl : k < l.length := by rw [HL.out]; exact hlt
        have hck : wr.cell? ⟨b, off + k, none⟩ = some (.string (bsv l[k])) := (HB.out.cell (p := ⟨b, off + k, none⟩) hb).trans (hc k hlt)
        have hd : l.drop k = l[k] :: l.drop (k + 1) := List.drop_eq_getElem_cons hkl
        obtain ⟨x, hx0⟩ : ∃ x, l[k] = x := ⟨_, rfl⟩
        rw [hx0] at hck hd
        have hno := numberOf_any (bsv x) wr
        have ex : (bsv x).data.toList = x := by simp
        rw [ex] at hno
        have HNO := Lib.hid hno
        have HD := Lib.hid hd
        clear hc hx0 hno ex hd
        go_wp2_with fail
        refine HNO.out.mono ?_
        rintro e w2 ⟨hw2, he⟩
        subst hw2
        cases hq : nmb x with
        | none =>
          rw [hq] at he
          have he : e = .panicked (slipC 1) := he
          subst he
          have HF : Hid (R = none) := by show _ = _; rw [← HN.out, HD.out]; simp [nmsL, hq]
          clear hq
          go_wp2
          refine ⟨rfl, ?_⟩
          rw [HF.out]
          exact ⟨rfl, HB.out⟩
        | some v =>
          rw [hq] at he
          have he : e = .returned (I v) := he
          subst he
          have HF : Hid ((nmsL (l.drop (k + 1))).map ((ks ++ [v]) ++ ·) = R) := by
            show _ = _
            rw [← HN.out, HD.out]
            simp only [nmsL, hq, Option.map_map]
            congr 1
            funext t
            simp
          have HNX := Lib.hid (nrow_next (x := v) HK.out hlt)
          have hcell := HT.out.cell k
          have hkt : k < (nrow ks n).length := by unfold nrow; simp; have := HK.out; omega
          rw [List.getElem?_eq_getElem hkt, Option.map_some] at hcell
          have hfz := HT.out.frozen k
          clear hq
          go_wp2
          go_roundw
          case rel =>
            refine ⟨k + 1, ks ++ [v], by omega, by go_num, by show _ = _; simp; exact HK.out, HF, ?_, HB.out.setCell (p := ⟨w.heap.size, k, none⟩) (Nat.le_refl _) _⟩
            rw [← HNX.out]
            exact HT.out.set _ _
          case measure => simp [intOf]; omega
      · obtain rfl : n = k := by omega
        have HF : Hid (R = some ks) := by
          show _ = _
          rw [← HN.out, List.drop_eq_nil_of_le (by rw [HL.out]; exact Nat.le_refl _)]
          simp [nmsL]
        have HT2 : Hid (IB wr w.heap.size 3 (ks.map fun n : Nat => (n : Int))) := by
          have e : nrow ks n = ks.map fun n : Nat => (n : Int) := by unfold nrow; rw [HK.out, Nat.sub_self]; simp
          rw [← e]
          exact HT.out
        go_wp2
        go_ret
        rw [HF.out]
        exact ⟨w.heap.size, by rw [HK.out]; exact rfl, HT2.out, Nat.le_refl _, HB.out⟩
  · have HC := Lib.hid (count_bad A n c many hlen w)
    have HR : Hid (nms many l = none) := by show _ = _; unfold nms; rw [if_neg (by rw [h.len]; exact hlen)]
    clear h hlen
    go_enter Tryz.func96, Tryz.ntmps96
    go_wp2_with fail
    refine HC.out.mono ?_
    rintro e w1 ⟨rfl, hw1⟩
    subst hw1
    go_wp2
    refine ⟨rfl, ?_⟩
    rw [HR.out]
    exact ⟨rfl, Below.refl _ _⟩
end Go.Proofs.YtpnjnedfcdppaaaGreatDoor
