/-
  Joined texts: YtpnjnedfcdppaaaGreatDoorDNof, YtpnjnedfcdppaaaGreatDoorDLineP.
-/
import Derived.Test.YtpnjnedfcdppaaaGreatDoorDWordsAll
import Derived.Laws.IdiomStrings
/-
  hedgref.numbersOf.
-/
namespace Go.Proofs.YtpnjnedfcdppaaaGreatDoor
open Go.RowKit

def RetNum (r : Option (List Nat)) (w : World) (e : Ending) (w' : World) : Prop :=
  match r with
  | some ks => ∃ v, e = .returned (.tuple #[v, .bool true]) ∧ OwnI w' w.heap.size v (ks.map fun n : Nat => (n : Int)) ∧ Below w.heap.size w w'
  | none => e = .returned (.tuple #[.slice none 0 0, .bool false]) ∧ Below w.heap.size w w'
theorem nmA_take {x : List UInt8} {q m : Nat} (hq : q < x.length) (h : nmA 0 (x.take q) = some m) : nmA 0 (x.take (q + 1)) = if 48 ≤ x[q].toNat ∧ x[q].toNat ≤ 57 then some (m * 10 + (x[q].toNat - 48)) else none := by
  rw [List.take_succ_eq_append_getElem hq, nmA_app, h]
  show nmA m [x[q]] = _
  rw [nmA]
  split
  · rw [nmA]
  · rfl
theorem nmA_bad {x : List UInt8} {q : Nat} (hq : q < x.length) (hb : ¬ (48 ≤ x[q].toNat ∧ x[q].toNat ≤ 57)) : nmA 0 x = none := by
  have e : x = x.take q ++ x[q] :: x.drop (q + 1) := by rw [List.getElem_cons_drop, List.take_append_drop]
  rw [e, nmA_app]
  cases nmA 0 (x.take q) with
  | none => rfl
  | some m =>
    show nmA m (x[q] :: _) = none
    rw [nmA, if_neg hb]
theorem nmsL_take {l : List (List UInt8)} {k : Nat} {ks : List Nat} (hk : k < l.length) (h : nmsL (l.take k) = some ks) : ∀ m, nmb l[k] = some m → nmsL (l.take (k + 1)) = some (ks ++ [m]) := by
  have key : ∀ (a : List (List UInt8)) (ks : List Nat) (x : List UInt8) (m : Nat), nmsL a = some ks → nmb x = some m → nmsL (a ++ [x]) = some (ks ++ [m]) := by
    intro a
    induction a with
    | nil =>
      intro ks x m h1 h2
      cases h1
      show nmsL [x] = _
      unfold nmsL
      rw [h2]
      rfl
    | cons y t ih =>
      intro ks x m h1 h2
      unfold nmsL at h1
      show nmsL (y :: (t ++ [x])) = _
      unfold nmsL
      cases hy : nmb y with
      | none => rw [hy] at h1; cases h1
      | some n =>
        rw [hy] at h1
        cases ht : nmsL t with
        | none => rw [ht] at h1; cases h1
        | some r =>
          rw [ht] at h1
          cases h1
          show (nmsL (t ++ [x])).map (n :: ·) = _
          rw [ih r x m ht h2]
          rfl
  intro m hm
  rw [List.take_succ_eq_append_getElem hk]
  exact key _ _ _ _ h hm
theorem nmsL_bad : ∀ {l : List (List UInt8)} {k : Nat} (hk : k < l.length), nmb l[k] = none → nmsL l = none
  | x :: t, 0, hk, h => by
    unfold nmsL
    rw [show nmb x = none from h]
  | x :: t, k + 1, hk, h => by
    have := nmsL_bad (l := t) (k := k) (by simpa using hk) h
    unfold nmsL
    rw [this]
    cases nmb x <;> rfl
set_option maxRecDepth 100000 in
set_option maxHeartbeats 4000000 in
theorem refNums_any (A : Option Addr) (n c : Nat) (l : List (List UInt8)) (w : World) (h : WS w A n c l) (hn : n ≤ 10000) (hne : ∀ x ∈ l, x ≠ [] ∧ x.length ≤ 10000) : Calls Tryz.prog 102 #[.slice A n c] w (RetNum (nmsL l) w) := by
  have H := Lib.hid h
  have HN := Lib.hid h.len
  have HNE := Lib.hid hne
  obtain ⟨i0, hi, hz0, hz1, hz2⟩ := info_parts int_info
  have HI := Lib.hid hi
  have HZ0 := Lib.hid hz0
  have HZ1 := Lib.hid hz1
  have HZ2 := Lib.hid hz2
  clear h hne hi hz0 hz1 hz2
  go_enter Tryz.func102, Tryz.ntmps102
  go_wp2
  go_loopw [4, 12] (fun v iv wr => ∃ (k : Nat) (ks : List Nat), k ≤ n ∧ iv = .int .i64 k ∧ ks.length = k ∧ Hid (nmsL (l.take k) = some ks) ∧ Hid (wr.ownsRow w.heap.size 3 1 v k ((ks.map fun n : Nat => (n : Int)).map I)) ∧ Hid (Below w.heap.size w wr)) (fun _ iv _ => n - (intOf iv).toNat)
  case atStart => exact ⟨0, [], Nat.zero_le _, rfl, rfl, rfl, World.ownsRow_nil _ _ _ _, Below.refl _ _⟩
  case round =>
    obtain ⟨k, ks, hk, rfl, hksl, HKS, HO, HB⟩ := hrel
    obtain ⟨wo, rfl⟩ : ∃ x, x = wr := ⟨wr, rfl⟩
    by_cases hkn : k < n
    · obtain ⟨b, off, rfl, hb, hcs⟩ := (H.out.below HB.out).at_ (by omega)
      have hkl : k < l.length := by rw [HN.out]; exact hkn
      have HST := Lib.hid (nmsL_take hkl HKS.out)
      have HBD := Lib.hid (fun h => nmsL_bad (l := l) hkl h)
      have hxx := HNE.out l[k] (List.getElem_mem hkl)
      obtain ⟨x, hx⟩ : ∃ x, l[k] = x := ⟨_, rfl⟩
      rw [hx] at HST HBD hxx
      have hc0 : wo.cell? ⟨b, off + k, none⟩ = some (.string (bsv x)) := by rw [← hx]; exact hcs k hkn
      clear hcs hx
      have hcv0 := run_bytes_of_string (P := Tryz.prog) wo 9 89 5 (bsv x) Tryz.underlying9 Tryz.underlying89 Tryz.underlying5
      have hsx : (bsv x).size = x.length := bsv_size x
      obtain ⟨cap, O, hcv, hO⟩ : ∃ (cap : Nat) (O : Obj), (convert 9 89 (.string (bsv x))).run Tryz.prog wo = .ok (.slice (some ⟨wo.heap.size, 0, none⟩) x.length cap) (wo.drew.alloc O) ∧ ∀ (i : Nat) (hi : i < x.length), (wo.drew.alloc O).cell? ⟨wo.heap.size, i, none⟩ = some (.int .u8 x[i].toNat) := by
        rw [hsx] at hcv0
        refine ⟨_, _, hcv0, fun i hi => ?_⟩
        show (wo.drew.alloc _).cell? ⟨wo.drew.heap.size, i, none⟩ = _
        rw [cell_of_row _ _ _ _ _ _ (heap_alloc_new wo.drew _)]
        simp [bytesRow, Array.getElem?_append_left, hi]
      have HOC := Lib.hid hO
      have HBO : Hid (Below wo.heap.size wo (wo.drew.alloc O)) := ((Below.refl _ _).drew).alloc (Nat.le_refl _) _
      obtain ⟨len, hlen⟩ : ∃ m, x.length = m := ⟨_, rfl⟩
      rw [hlen] at hcv hsx hxx
      have HLEN := Lib.hid hlen
      have hlen0 : 0 < len := by rw [← hlen]; exact List.length_pos_iff.2 hxx.1
      have hlenb := hxx.2
      clear hcv0 hO hxx hlen
      go_wp2
      have HOC : Hid (∀ (i : Nat) (hi : i < x.length), ((wo.alloc O).drew).cell? ⟨wo.heap.size, i, none⟩ = some (.int .u8 x[i].toNat)) := HOC
      have HBO : Hid (Below wo.heap.size wo (wo.alloc O).drew) := HBO
      obtain ⟨W, hW⟩ : ∃ W, (wo.alloc O).drew = W := ⟨_, rfl⟩
      rw [hW] at HOC HBO ⊢
      clear hcv hW
      go_loopw [7, 19] (fun v iv wr => ∃ q m : Nat, q ≤ len ∧ iv = .int .i64 q ∧ v = I m ∧ m < 10 ^ q ∧ (0 < q → len ≤ 7) ∧ Hid (nmA 0 (x.take q) = some m) ∧ wr = W) (fun _ iv _ => len - (intOf iv).toNat)
      case atStart => exact ⟨0, 0, Nat.zero_le _, rfl, rfl, by decide, fun h => by omega, rfl, rfl⟩
      case round =>
        obtain ⟨q, m, hq, rfl, rfl, hm, hq7, HA, rfl⟩ := hrel
        by_cases hql : q < len
        · have hqx : q < x.length := by rw [HLEN.out]; exact hql
          have hcq := HOC.out q hqx
          have HTK := Lib.hid (nmA_take hqx HA.out)
          have HBA := Lib.hid (nmA_bad hqx)
          have hlt := x[q].toNat_lt
          obtain ⟨by_, hby⟩ : ∃ b : Nat, x[q].toNat = b := ⟨_, rfl⟩
          rw [hby] at hcq HTK HBA hlt
          by_cases hdig : 48 ≤ by_ ∧ by_ ≤ 57
          · by_cases hl7 : len ≤ 7
            · have hbt : btwB (by_ : Int) 48 57 = true := by unfold btwB; exact decide_eq_true (by omega)
              rw [if_pos hdig] at HTK
              have g7 : ¬ (7 : Int) < (len : Int) := by omega
              have hm7 : m < 10 ^ 7 := Nat.lt_of_lt_of_le hm (Nat.pow_le_pow_right (by omega) (by omega))
              clear HBA hby
              go_wp2_with fail
              refine (Between_any _ _ _ _).mono ?_
              rintro e w1 ⟨rfl, rfl⟩
              rw [hbt]
              go_wp2
              go_roundw
              case rel =>
                refine ⟨q + 1, m * 10 + (by_ - 48), by omega, by go_num, ?_, ?_, fun _ => hl7, HTK.out, by trivial⟩
                · congr 1; omega
                · rw [Nat.pow_succ]; omega
              case measure => simp [intOf]; omega
            · have hbt : btwB (by_ : Int) 48 57 = true := by unfold btwB; exact decide_eq_true (by omega)
              have g7 : (7 : Int) < (len : Int) := by omega
              have HN0 : Hid (nmsL l = none) := Lib.hid (HBD.out (by unfold nmb; rw [if_pos (by rw [HLEN.out]; omega)]))
              clear HBA hby
              go_wp2_with fail
              refine (Between_any _ _ _ _).mono ?_
              rintro e w1 ⟨rfl, rfl⟩
              rw [hbt]
              go_wp2
              go_ret2
              rw [HN0.out]
              exact ⟨rfl, tr2 HB.out HBO.out⟩
          · have hbt : btwB (by_ : Int) 48 57 = false := by unfold btwB; exact decide_eq_false (by omega)
            have hnb : nmb x = none := by
              unfold nmb
              split
              · rfl
              · exact HBA.out hdig
            have HN0 : Hid (nmsL l = none) := Lib.hid (HBD.out hnb)
            clear HBA hby
            go_wp2_with fail
            refine (Between_any _ _ _ _).mono ?_
            rintro e w1 ⟨rfl, rfl⟩
            rw [hbt]
            go_wp2
            go_ret2
            rw [HN0.out]
            exact ⟨rfl, tr2 HB.out HBO.out⟩
        · obtain rfl : q = len := by omega
          have htk : x.take q = x := List.take_of_length_le (by rw [HLEN.out]; exact Nat.le_refl _)
          rw [htk] at HA
          have hnm : nmb x = some m := by unfold nmb; rw [if_neg (by rw [HLEN.out]; have := hq7 (by omega); omega)]; exact HA.out
          have HKS2 := Lib.hid (HST.out m hnm)
          have HB2 := Lib.hid (tr2 HB.out HBO.out)
          have hsz := HB2.out.size
          clear htk hnm
          go_wp2_with (first
            | (at_builtin
               refine wpList_append_own_at _ rfl (.tmp 39) (.tmp 41) 46 rfl w.heap.size 3 i0 _ 1 8 Tryz.underlying46 HI.out HZ0.out HZ1.out HZ2.out rfl (by omega) _ k _ rfl (own_below (own_below HO.out HBO.out) ((Below.refl _ _).alloc (Nat.le_refl _) _)) ⟨wr.heap.size, 0, none⟩ 1 1 [I m] rfl rfl (cell_one_new _ _ _) (one_I m) (by unfold maxLen; omega) (by omega) (by simp; omega) ?_
               intro v5 w5 hown5 hgrow5 _ hat5)
            | fail)
          go_roundw
          case rel =>
            refine ⟨k + 1, ks ++ [m], by omega, by go_num, by simp [hksl], HKS2.out, ?_, ?_⟩
            · show World.ownsRow _ _ _ _ _ _ _
              simpa using hown5
            · exact Below.grown (HB2.out.alloc hsz _) hgrow5 (by simp; omega) (own_ge1 HO.out)
          case measure => simp [intOf]; omega
    · obtain rfl : k = n := by omega
      have htk : l.take k = l := List.take_of_length_le (by rw [HN.out]; exact Nat.le_refl _)
      rw [htk] at HKS
      clear htk
      go_wp2
      go_ret2
      rw [HKS.out]
      exact ⟨_, rfl, by unfold OwnI; rw [List.length_map, hksl]; exact HO.out, HB.out⟩
end Go.Proofs.YtpnjnedfcdppaaaGreatDoor

/-
  hedgref.deskLine: plain: names by number, what a line's answer comes to.
-/
namespace Go.Proofs.YtpnjnedfcdppaaaGreatDoor
open Go.RowKit

def ixA (x : List UInt8) : Nat → List (List UInt8) → Int
  | _, [] => -1
  | i, y :: t => if x = y then (i : Int) else ixA x (i + 1) t
def nmL : List (List UInt8) := [[112, 117, 116], [103, 101, 116], [99, 117, 116], [110, 101, 120, 116], [112, 114, 101, 118], [99, 111, 117, 110, 116], [110, 116, 104]]
theorem ix_kind (x : List UInt8) : ixA x 0 nmL = (kindB x : Int) - 1 := by
  show (if x = [112, 117, 116] then ((0 : Nat) : Int) else if x = [103, 101, 116] then ((1 : Nat) : Int) else if x = [99, 117, 116] then ((2 : Nat) : Int) else if x = [110, 101, 120, 116] then ((3 : Nat) : Int) else if x = [112, 114, 101, 118] then ((4 : Nat) : Int) else if x = [99, 111, 117, 110, 116] then ((5 : Nat) : Int) else if x = [110, 116, 104] then ((6 : Nat) : Int) else -1) = _
  unfold kindB
  by_cases h1 : x = [112, 117, 116]
  · rw [if_pos h1, if_pos h1]; rfl
  rw [if_neg h1, if_neg h1]
  by_cases h2 : x = [103, 101, 116]
  · rw [if_pos h2, if_pos h2]; rfl
  rw [if_neg h2, if_neg h2]
  by_cases h3 : x = [99, 117, 116]
  · rw [if_pos h3, if_pos h3]; rfl
  rw [if_neg h3, if_neg h3]
  by_cases h4 : x = [110, 101, 120, 116]
  · rw [if_pos h4, if_pos h4]; rfl
  rw [if_neg h4, if_neg h4]
  by_cases h5 : x = [112, 114, 101, 118]
  · rw [if_pos h5, if_pos h5]; rfl
  rw [if_neg h5, if_neg h5]
  by_cases h6 : x = [99, 111, 117, 110, 116]
  · rw [if_pos h6, if_pos h6]; rfl
  rw [if_neg h6, if_neg h6]
  by_cases h7 : x = [110, 116, 104]
  · rw [if_pos h7, if_pos h7]; rfl
  rw [if_neg h7, if_neg h7]
  rfl
theorem kind_le (x : List UInt8) : kindB x ≤ 7 := by
  unfold kindB
  repeat' split
  all_goals omega
def wantN (kd : Nat) : Nat := if kd = 1 then 2 else 1
theorem dOp_none {kd : Nat} {r : List (List UInt8)} (h : nmsL r = none) : dOp kd r = none := by
  have h2 : ∀ m, nms m r = none := fun m => by unfold nms; split <;> first | exact h | rfl
  unfold dOp
  rw [h2, h2]
  split <;> rfl
theorem dOp_len {kd : Nat} {r : List (List UInt8)} {ks : List Nat} (h : nmsL r = some ks) (hl : ks.length ≠ wantN kd) : dOp kd r = none := by
  have hk := nmsL_len h
  unfold wantN at hl
  unfold dOp
  by_cases h1 : kd = 1
  · rw [if_pos h1] at hl ⊢
    unfold nms
    rw [if_neg (by omega)]
    rfl
  · rw [if_neg h1] at hl ⊢
    unfold nms
    rw [if_neg (by omega)]
    rfl
theorem dOp_put {r : List (List UInt8)} {a b : Nat} (h : nmsL r = some [a, b]) : dOp 1 r = some (1, (a : Int), (b : Int)) := by
  have hk := nmsL_len h
  unfold dOp nms
  rw [if_pos rfl, if_pos (by rw [← hk]; rfl), h]
  rfl
theorem dOp_one {kd : Nat} {r : List (List UInt8)} {a : Nat} (h1 : kd ≠ 1) (h : nmsL r = some [a]) : dOp kd r = some ((kd : Int), (a : Int), 0) := by
  have hk := nmsL_len h
  unfold dOp nms
  rw [if_neg h1, if_pos (by rw [← hk]; rfl), h]
  rfl
section
variable {ops : List OP} {f : List UInt8} {r : List (List UInt8)}
theorem dAns_op (h : kindB f ≠ 0) : dAns ops (f :: r) = opR ops (dOp (kindB f) r) := by
  show (if kindB f ≠ 0 then _ else _) = _
  rw [if_pos h]
theorem dAns_path (h : f = [112, 97, 116, 104]) : dAns ops (f :: r) = pathR ops (nms 1 r) := by
  subst h
  rfl
theorem dAns_rows (h : f = [114, 111, 119, 115]) : dAns ops (f :: r) = (if r.length = 0 then orN (rowsT (rowsL (kys (runR ops).1))) else e1T, ops) := by
  subst h
  rfl
theorem dAns_tree (h : f = [116, 114, 101, 101]) : dAns ops (f :: r) = ordR ops r := by
  subst h
  rfl
theorem dAns_deep (h : f = [100, 101, 101, 112]) : dAns ops (f :: r) = deepR ops r := by
  subst h
  rfl
theorem dAns_else (h0 : kindB f = 0) (h1 : f ≠ [112, 97, 116, 104]) (h2 : f ≠ [114, 111, 119, 115]) (h3 : f ≠ [116, 114, 101, 101]) (h4 : f ≠ [100, 101, 101, 112]) : dAns ops (f :: r) = (e1T, ops) := by
  show (if kindB f ≠ 0 then _ else if f = _ then _ else if f = _ then _ else if f = _ then _ else if f = _ then _ else _) = _
  rw [if_neg (by omega), if_neg h1, if_neg h2, if_neg h3, if_neg h4]
theorem ordR_len (h : r.length ≠ 1) : ordR ops r = (e1T, ops) := by
  match r with
  | [] => rfl
  | [_] => simp at h
  | _ :: _ :: _ => rfl
theorem deepR_len (h : r.length ≠ 1) : deepR ops r = (e1T, ops) := by
  match r with
  | [] => rfl
  | [_] => simp at h
  | _ :: _ :: _ => rfl
theorem pathR_len (h : r.length ≠ 1) : pathR ops (nms 1 r) = (e1T, ops) := by
  unfold nms
  rw [if_neg h]
  rfl
theorem dAns_many (h0 : kindB f = 0) (hr : r.length ≠ 1) (h2 : f = [114, 111, 119, 115] → r.length ≠ 0) : dAns ops (f :: r) = (e1T, ops) := by
  by_cases h1 : f = [112, 97, 116, 104]
  · rw [dAns_path h1, pathR_len hr]
  by_cases h3 : f = [114, 111, 119, 115]
  · rw [dAns_rows h3, if_neg (h2 h3)]
  by_cases h4 : f = [116, 114, 101, 101]
  · rw [dAns_tree h4, ordR_len hr]
  by_cases h5 : f = [100, 101, 101, 112]
  · rw [dAns_deep h5, deepR_len hr]
  exact dAns_else h0 h1 h3 h4 h5
theorem dAns_oak {x : List UInt8} (h0 : kindB f = 0) (h1 : f ≠ [112, 97, 116, 104]) (h : dTree ops x = none) : dAns ops [f, x] = (e1T, ops) := by
  by_cases h3 : f = [114, 111, 119, 115]
  · rw [dAns_rows h3]; rfl
  by_cases h4 : f = [116, 114, 101, 101]
  · rw [dAns_tree h4, ordR_none h]
  by_cases h5 : f = [100, 101, 101, 112]
  · rw [dAns_deep h5, deepR_none h]
  exact dAns_else h0 h1 h3 h4 h5
theorem dAns_other {x : List UInt8} (h0 : kindB f = 0) (h1 : f ≠ [112, 97, 116, 104]) (h4 : f ≠ [116, 114, 101, 101]) (h5 : f ≠ [100, 101, 101, 112]) : dAns ops [f, x] = (e1T, ops) := by
  by_cases h3 : f = [114, 111, 119, 115]
  · rw [dAns_rows h3]; rfl
  exact dAns_else h0 h1 h3 h4 h5
end
end Go.Proofs.YtpnjnedfcdppaaaGreatDoor
