/-
  Joined texts: YtolgncaaffmmnaaDoorOpRows, YtolgncaaffmmnaaDoorKOne0, YtolgncaaffmmnaaDoorPutAll, YtolgncaaffmmnaaDoorThree.
-/
import Derived.Test.YtolgncaaffmmnaaDoorRun
import Derived.Test.YtolgncaaffmmnaaDoorSpotBAll
import Derived.Deep.AppendLies
import Derived.Test.YtolgncaaffmmnaaDoorMapKAll
import Derived.Test.YtolgncaaffmmnaaDoorKPure
import Derived.Test.YtolgncaaffmmnaaDoorRunCAll
import Derived.Test.YtolgncaaffmmnaaDoorCopy
import Derived.Test.YtolgncaaffmmnaaDoorChecked
/-
  ROWS OF OPS of the call's own.
-/
namespace Go.Proofs.YtolgncaaffmmnaaDoor
open Go.RowKit

def flatO : List OP → List Value
  | [] => []
  | o :: t => I o.1 :: I o.2.1 :: I o.2.2 :: flatO t
theorem flatO_length (l : List OP) : (flatO l).length = l.length * 3 := by induction l <;> simp [flatO, *]; omega
theorem flatO_append (l m : List OP) : flatO (l ++ m) = flatO l ++ flatO m := by induction l <;> simp [flatO, *]
theorem flatO_take (l : List OP) (k : Nat) : (flatO l).take (k * 3) = flatO (l.take k) := by
  induction l generalizing k with
  | nil => simp [flatO]
  | cons o t ih =>
    cases k with
    | zero => simp [flatO]
    | succ k => rw [show (k + 1) * 3 = k * 3 + 1 + 1 + 1 by omega]; simp [flatO, ih]
theorem flatO_at (l : List OP) (i j : Nat) (h : i < l.length) (hj : j < 3) : (flatO l)[i * 3 + j]? = some (of_ l i j) := by
  induction l generalizing i with
  | nil => simp at h
  | cons o t ih =>
    cases i with
    | zero => rcases (show j = 0 ∨ j = 1 ∨ j = 2 by omega) with rfl | rfl | rfl <;> simp [flatO, of_]
    | succ i =>
      rw [show (i + 1) * 3 + j = i * 3 + j + 1 + 1 + 1 by omega]
      simp only [flatO, List.getElem?_cons_succ]
      rw [ih i (by simpa using h)]
      simp [of_]
theorem flatO_one (l : List OP) : ∀ u ∈ flatO l, u.oneCell' = true := by
  induction l with
  | nil => intro u h; cases h
  | cons o t ih =>
    intro u h
    simp [flatO] at h
    rcases h with rfl | rfl | rfl | h
    · rfl
    · rfl
    · rfl
    · exact ih u h
/-- a row of ops of the call's own -/
def OwnO (w : World) (base : Nat) (v : Value) (L : List OP) : Prop := w.ownsRow base 53 3 v L.length (flatO L)
theorem OwnO.os {w : World} {base : Nat} {v : Value} {L : List OP} (h : OwnO w base v L) : ∃ A c, v = .slice A L.length c ∧ OS w A L.length c L := by
  rcases h.2 with ⟨rfl, h0⟩ | ⟨g, cap, cur, rfl, hb, hg, hnc, _, hsz, htk⟩
  · have hl : L = [] := List.eq_nil_of_length_eq_zero h0
    subst hl
    exact ⟨none, 0, rfl, ⟨rfl, Rd.none_⟩⟩
  · refine ⟨_, cap, rfl, ⟨rfl, hnc, fun _ => ⟨g, 0, rfl, ?_, fun i hi j hj => ?_⟩⟩⟩
    · rcases Nat.lt_or_ge g w.heap.size with hlt | hge
      · exact hlt
      · rw [Array.getElem?_eq_none hge] at hg; cases hg
    · rw [cell_of_row _ _ _ _ _ _ hg]
      have h1 := flatO_at L i j hi hj
      rw [← htk, List.getElem?_take, if_pos (by omega)] at h1
      simpa using h1
theorem OwnO.prefix_ {w : World} {base k : Nat} {A : Option Addr} {c : Nat} {L : List OP} (h : OwnO w base (.slice A L.length c) L) (hk : k < L.length) : OwnO w base (.slice A k c) (L.take k) := by
  rcases h.2 with ⟨_, h0⟩ | ⟨g, cap, cur, e, hb, hg, hnc, hm, hsz, htk⟩
  · omega
  · have hl : (L.take k).length = k := by rw [List.length_take]; omega
    injection e with e1 e2 e3
    subst e1 e3
    refine ⟨by rw [flatO_length], .inr ⟨g, c, cur, by rw [hl], hb, hg, by omega, hm, hsz, ?_⟩⟩
    rw [hl, ← flatO_take, ← htk, List.take_take, Nat.min_eq_left (by omega)]
theorem op_info : (Tryd.prog.info? 53).map (fun i => (i.zero, i.size, i.bytes)) = some (some (.agg #[I 0, I 0, I 0]), 3, 24) := by kernel_rfl
theorem OS.cells {w : World} {n c : Nat} {A : Option Addr} {l : List OP} (h : OS w A n c l) {ad : Addr} (e : A = some ad) : ∀ j u, (flatO l)[j]? = some u → w.cell? (ad.add j) = some u := by
  intro j u hu
  have hj : j < (flatO l).length := by
    rcases Nat.lt_or_ge j (flatO l).length with h1 | h1
    · exact h1
    · rw [List.getElem?_eq_none h1] at hu; cases hu
  rw [flatO_length, h.len] at hj
  obtain ⟨b, off, e2, hb, hc⟩ := h.rd.2 (by omega)
  rw [e] at e2
  injection e2 with e2
  subst e2
  have h1 := hc (j / 3) (by omega) (j % 3) (by omega)
  have h2 := flatO_at l (j / 3) (j % 3) (by rw [h.len]; omega) (by omega)
  rw [show j / 3 * 3 + j % 3 = j by omega] at h1 h2
  rw [addn, h1]
  rw [h2] at hu
  exact hu
theorem OS.drewN {w : World} {n c : Nat} {A : Option Addr} {l : List OP} (h : OS w A n c l) (k : Nat) : OS (w.drewN k) A n c l := ⟨h.len, h.rd⟩

theorem three_new (w : World) (a b c : Int) (t : Nat) : ∀ j u, [I a, I b, I c][j]? = some u → (w.alloc (.cells #[I a, I b, I c] t)).cell? ((⟨w.heap.size, 0, none⟩ : Addr).add j) = some u := by
  intro j u hu
  rw [addn, Nat.zero_add]
  have := heap_alloc_new w (.cells #[I a, I b, I c] t)
  rw [cell_of_row _ _ _ _ _ _ this]
  simpa using hu
theorem three_one (a b c : Int) : ∀ u ∈ [I a, I b, I c], u.oneCell' = true := by
  intro u hu
  simp at hu
  rcases hu with rfl | rfl | rfl <;> rfl
end Go.Proofs.YtolgncaaffmmnaaDoor

/-
  BY OTHER OPS TO THE SAME KEYS, as lists. Nothing is walked here.
-/
namespace Go.Proofs.YtolgncaaffmmnaaDoor

def foldL (ops : List OP) (l : PL) : PL := ops.foldl (fun l o => doL l o.1 o.2.1 o.2.2) l
theorem step_fst (ops : List OP) : ∀ s : PL × List An, (ops.foldl stepR s).1 = foldL ops s.1 := by
  induction ops with
  | nil => intro s; rfl
  | cons o t ih => intro s; rw [List.foldl_cons, ih]; rfl
theorem runR_fst (ops : List OP) : (runR ops).1 = foldL ops [] := step_fst ops ([], [])
theorem foldL_append (a b : List OP) (l : PL) : foldL (a ++ b) l = foldL b (foldL a l) := by simp [foldL, List.foldl_append]
theorem doL_grow (l : PL) (kind key val : Int) : (doL l kind key val).length ≤ l.length + 1 := by
  unfold doL
  by_cases hc : chk l = 0
  · rw [if_neg (by simpa using hc)]
    split
    · omega
    · split
      · unfold putL
        split
        · simp
        · split
          · omega
          · have := cnt_le l key
            simp
            omega
      · split
        · unfold cutL
          split
          · simp
            omega
          · omega
        · omega
  · rw [if_pos hc]; simp
theorem foldL_len (ops : List OP) : ∀ l : PL, (foldL ops l).length ≤ l.length + ops.length := by
  induction ops with
  | nil => intro l; simp [foldL]
  | cons o t ih =>
    intro l
    have h1 := ih (doL l o.1 o.2.1 o.2.2)
    have h2 := doL_grow l o.1 o.2.1 o.2.2
    show (foldL t (doL l o.1 o.2.1 o.2.2)).length ≤ _
    rw [List.length_cons]
    omega
theorem runR_grow (ops : List OP) : (runR ops).1.length ≤ ops.length := by
  rw [runR_fst]
  simpa using foldL_len ops []

def cutsOf (ks : List Int) : List OP := ks.map fun k => (3, k, 0)
def putsOf (ks : List Int) : List OP := ks.map fun k => (1, k, 0)
theorem srt_pw : ∀ (l : PL) (lo : Int), Srt lo l → (kys l).Pairwise (· < ·) ∧ ∀ x ∈ kys l, lo ≤ x ∧ x ≤ 1000000
  | [], _, _ => ⟨List.Pairwise.nil, fun x h => by cases h⟩
  | p :: t, lo, h => by
    obtain ⟨h1, h2, h3⟩ := h
    obtain ⟨h4, h5⟩ := srt_pw t (p.1 + 1) h3
    refine ⟨List.Pairwise.cons (fun x hx => ?_) h4, fun x hx => ?_⟩
    · have := h5 x hx
      omega
    · rcases List.mem_cons.1 hx with rfl | hx
      · exact ⟨h1, h2⟩
      · have := h5 x hx
        omega
theorem rise_kys {l : PL} (h : chk l = 0) : Rise (kys l) := by
  obtain ⟨h1, h2⟩ := (chk_zero l).1 h
  obtain ⟨h3, h4⟩ := srt_pw l 0 h2
  exact ⟨by rw [kys_len]; exact h1, h3, h4⟩
theorem srt_of : ∀ (t : List Int) (lo : Int), t.Pairwise (· < ·) → (∀ x ∈ t, lo ≤ x ∧ x ≤ 1000000) → Srt lo (t.map fun k => (k, (0 : Int)))
  | [], _, _, _ => trivial
  | k :: t, lo, hp, hb => by
    have h1 := hb k (by simp)
    refine ⟨h1.1, h1.2, srt_of t (k + 1) (List.pairwise_cons.1 hp).2 fun x hx => ?_⟩
    have h2 := (List.pairwise_cons.1 hp).1 x hx
    have h3 := hb x (by simp [hx])
    omega
theorem cuts_all : ∀ (l : PL) (lo : Int), 0 ≤ lo → Srt lo l → l.length ≤ 200 → foldL (cutsOf (kys l)) l = []
  | [], _, _, _, _ => rfl
  | p :: t, lo, h0, hs, hl => by
    have hc : chk (p :: t) = 0 := (chk_zero _).2 ⟨hl, hs.mono h0⟩
    obtain ⟨h1, h2, h3⟩ := hs
    have hk : keyB p.1 = true := by simp [keyB]; omega
    have e : doL (p :: t) 3 p.1 0 = t := by
      rw [doL_cut hc, hk, if_pos rfl, cutL_eq]
      show (if p.1 < p.1 then _ else _) = t
      rw [if_neg (by omega), if_pos rfl]
    show foldL (cutsOf (kys t)) (doL (p :: t) 3 p.1 0) = []
    rw [e]
    exact cuts_all t (p.1 + 1) (by omega) h3 (by rw [List.length_cons] at hl; omega)
theorem puts_all : ∀ (ks : List Int), Rise ks → foldL (putsOf ks.reverse) [] = ks.map fun k => (k, (0 : Int))
  | [], _ => rfl
  | k :: t, h => by
    have hp := List.pairwise_cons.1 h.pw
    have hl : (k :: t).length ≤ 200 := h.len
    rw [List.length_cons] at hl
    have ht : Rise t := ⟨by omega, hp.2, fun x hx => h.bd x (by simp [hx])⟩
    have hkb := h.bd k (by simp)
    have hs : Srt (k + 1) (t.map fun k => (k, (0 : Int))) := srt_of t (k + 1) hp.2 fun x hx => by
      have := hp.1 x hx
      have := h.bd x (by simp [hx])
      omega
    have hc : chk (t.map fun k => (k, (0 : Int))) = 0 := (chk_zero _).2 ⟨by simp; omega, hs.mono (by omega)⟩
    have hk : keyB k = true := by simp [keyB]; omega
    rw [List.reverse_cons]
    unfold putsOf
    rw [List.map_append, foldL_append]
    have ih := puts_all t ht
    unfold putsOf at ih
    rw [ih]
    show doL _ 1 k 0 = _
    rw [doL_put hc, hk, if_pos rfl, putL_eq, if_pos (.inr (by simp; omega)), ins_low _ k 0 (k + 1) hs (by omega)]
    rfl
theorem kys_zero (ks : List Int) : kys (ks.map fun k => (k, (0 : Int))) = ks := by
  unfold kys
  rw [List.map_map]
  exact List.map_id'' (fun _ => rfl) ks
theorem kys_final (mo : List OP) (ks : List Int) (hR : Rise ks) : kys (runR (mo ++ cutsOf (kys (runR mo).1) ++ putsOf ks.reverse)).1 = ks := by
  obtain ⟨h1, h2⟩ := (chk_zero _).1 (chk_runR mo)
  rw [runR_fst, foldL_append, foldL_append, ← runR_fst, cuts_all _ 0 (Int.le_refl _) h2 h1, puts_all ks hR, kys_zero]
end Go.Proofs.YtolgncaaffmmnaaDoor

/-
  hedgkeep.putAll.
-/
namespace Go.Proofs.YtolgncaaffmmnaaDoor
open Go.RowKit

set_option maxRecDepth 100000 in
set_option maxHeartbeats 1000000 in
theorem putAll_any (A : Option Addr) (n c : Nat) (ks : List Int) (w : World) (h : IS w A n c ks) (hn : n ≤ 2000000) :
    Calls Tryd.prog 40 #[.slice A n c] w fun e w' => ∃ v, e = .returned v ∧ OwnO w' w.heap.size v (putsOf ks) ∧ Below w.heap.size w w' := by
  have H := Lib.hid h
  have HL := Lib.hid h.len
  clear h
  obtain ⟨i0, hi, hz0, hz1, hz2⟩ := info_parts op_info
  have HI := Lib.hid hi
  have HZ0 := Lib.hid hz0
  have HZ1 := Lib.hid hz1
  have HZ2 := Lib.hid hz2
  clear hi hz0 hz1 hz2
  go_enter Tryd.func40, Tryd.ntmps40
  go_wp2
  go_loopw [3, 8] (fun v i wr => ∃ k : Nat, k ≤ n ∧ i = .int .i64 k ∧ OwnO wr w.heap.size v (putsOf (ks.take k)) ∧ Below w.heap.size w wr) (fun _ i _ => n - (intOf i).toNat)
  case atStart => exact ⟨0, Nat.zero_le _, rfl, World.ownsRow_nil _ _ _ _, Below.refl _ _⟩
  case round =>
    obtain ⟨k, hk, rfl, hown, hnx⟩ := hrel
    by_cases hlt : k < n
    · have hkl : k < ks.length := by rw [HL.out]; exact hlt
      obtain ⟨b, off, rfl, hbw, hc⟩ := (H.out.below hnx).cell_at hlt
      obtain ⟨x, hx⟩ : ∃ x, ks[k] = x := ⟨_, rfl⟩
      rw [hx] at hc
      have HCT : Hid (putsOf (ks.take (k + 1)) = putsOf (ks.take k) ++ [(1, x, 0)]) := by
        show _ = _
        rw [List.take_succ_eq_append_getElem hkl, hx]
        simp [putsOf]
      obtain ⟨xs, hxs⟩ : ∃ xs, putsOf (ks.take k) = xs := ⟨_, rfl⟩
      have hxl : xs.length ≤ 2000000 := by rw [← hxs]; simp [putsOf]; omega
      rw [hxs] at hown HCT
      have HOWN := Lib.hid hown
      have HNX := Lib.hid hnx
      have hzi := hnx.size
      clear hx hown hnx hxs
      go_wp2_with (first
        | (at_builtin
           refine wpList_append_own_at _ rfl (.tmp 12) (.tmp 15) 23 rfl w.heap.size 53 i0 _ 3 24 Tryd.underlying23 HI.out HZ0.out HZ1.out HZ2.out rfl (by omega) _ xs.length (flatO xs) rfl (own_below HOWN.out ((Below.refl _ _).alloc (Nat.le_refl _) _)) ⟨wr.heap.size, 0, none⟩ 1 1 [I 1, I x, I 0] rfl rfl (three_new _ 1 x 0 _) (three_one 1 x 0) (by unfold maxLen; omega) (by omega) (by simp; omega) ?_
           intro v2 w9 hown2 hgrow2 _ hat2)
        | fail)
      go_roundw
      case rel =>
        refine ⟨k + 1, by omega, by go_num, ?_, ?_⟩
        · rw [HCT.out]
          unfold OwnO
          rw [flatO_append, List.length_append, List.length_singleton]
          exact hown2
        · exact Below.grown (HNX.out.alloc hzi _) hgrow2 (by simp; omega) (own_ge1 HOWN.out)
      case measure => simp [intOf]; omega
    · rw [List.take_of_length_le (by rw [HL.out]; omega)] at hown
      have HOWN := Lib.hid hown
      have HNX := Lib.hid hnx
      clear hown hnx
      go_wp2
      go_ret
      exact ⟨u3, rfl, HOWN.out, HNX.out⟩

end Go.Proofs.YtolgncaaffmmnaaDoor

/-
  threeSpots.
-/
namespace Go.Proofs.YtolgncaaffmmnaaDoor
open Go.RowKit

abbrev gth : PL := [(1, 1), (2, 0), (3, 1)]
theorem gthree_any (w : World) : Calls Tryd.prog 42 #[] w fun e w' => e = .returned (.slice (some ⟨w.heap.size, 0, none⟩) 3 3) ∧ PB w' w.heap.size 65 gth ∧ Below w.heap.size w w' := by
  go_enter Tryd.func42, Tryd.ntmps42
  go_wp2
  go_ret
  exact ⟨rfl, PB.new w 65 gth, (Below.refl _ _).alloc (Nat.le_refl _) _⟩

end Go.Proofs.YtolgncaaffmmnaaDoor
