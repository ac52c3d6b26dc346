/-
  Joined texts: YtfmdpmebllepeaaJInit, YtfmdpmebllepeaaJRun, YtfmdpmebllepeaaJCheck, YtfmdpmebllepeaaJSound, YtfmdpmebllepeaaJRunW.
-/
import Derived.Test.YtfmdpmebllepeaaJToldAll
import Derived.Test.YtfmdpmebllepeaaSlR
import Derived.Test.YtfmdpmebllepeaaUTellAll
/-
  package hands: the hands as they are made, before the first step.
-/
namespace Go.Proofs.Ytfmdpmebllepeaa
open Go.RowKit

abbrev hzero : Value := .agg #[I 0, .slice none 0 0, .slice none 0 0, .nilFunc, .pointer none, .pointer none, .pointer none, .nilFunc, .bool false]
theorem hand_info : (Try.prog.info? 74).map (fun i => (i.zero, i.size, i.bytes)) = some (some hzero, 9, 104) := by kernel_rfl
def hz0 (i : Nat) : Value := if i = 0 then I 0 else if i = 1 then .slice none 0 0 else if i = 2 then .slice none 0 0 else if i = 3 then .nilFunc else if i = 4 then .pointer none else if i = 5 then .pointer none else if i = 6 then .pointer none else if i = 7 then .nilFunc else .bool false
def hand0 (al z v : Nat) (d : Value) (i : Nat) : Value := if i = 0 then I v else if i = 1 then d else if i = 2 then .slice none 0 0 else if i = 3 then fWay al else if i = 4 then jp z else if i = 5 then .pointer none else if i = 6 then .pointer none else if i = 7 then .nilFunc else .bool false
theorem hz0_at {i : Nat} (hi : i < 9) : #[I 0, .slice none 0 0, .slice none 0 0, .nilFunc, .pointer none, .pointer none, .pointer none, .nilFunc, .bool false][i]? = some (hz0 i) := by
  rcases (show i = 0 ∨ i = 1 ∨ i = 2 ∨ i = 3 ∨ i = 4 ∨ i = 5 ∨ i = 6 ∨ i = 7 ∨ i = 8 by omega) with rfl | rfl | rfl | rfl | rfl | rfl | rfl | rfl | rfl <;> rfl
theorem hz0_one {i : Nat} (hi : i < 9) : (hz0 i).oneCell' = true := by
  rcases (show i = 0 ∨ i = 1 ∨ i = 2 ∨ i = 3 ∨ i = 4 ∨ i = 5 ∨ i = 6 ∨ i = 7 ∨ i = 8 by omega) with rfl | rfl | rfl | rfl | rfl | rfl | rfl | rfl | rfl <;> rfl
theorem run_makeH (n : Nat) (hn : n ≤ 1000) (w : World) :
    (Instr.makeSlice 72 (.int .i64 (n : Int)) (.int .i64 (n : Int))).run Try.prog w = .ok (.slice (some ⟨w.heap.size, 0, none⟩) n n) (w.alloc (.cells (madeCells hzero.cells (n * 9)) 74)) := by
  obtain ⟨i, h1, hz, hs, hb⟩ := jinfo_parts hand_info
  have := run_make (P := Try.prog) w 72 74 i _ Try.underlying72 h1 hz .i64 .i64 n n (by omega) (by omega) (by rw [hb]; omega) (by omega)
  rw [this, hs]
  simp only [Int.toNat_natCast]
theorem made_jh (w : World) (n : Nat) : JH (w.alloc (.cells (madeCells hzero.cells (n * 9)) 74)) w.heap.size n (fun _ => hz0) := by
  refine ⟨_, heap_alloc_new w _, by rw [size_madeCells], fun v hv i hi => ?_, fun v _ i hi => hz0_one hi⟩
  have hlt : v * 9 + i < n * 9 := by omega
  have h1 : v * 9 + i < (madeCells hzero.cells (n * 9)).size := by rw [size_madeCells]; exact hlt
  rw [Array.getElem?_eq_getElem h1]
  have hm : (v * 9 + i) % 9 = i := by omega
  rw [← hz0_at hi]
  rcases (show i = 0 ∨ i = 1 ∨ i = 2 ∨ i = 3 ∨ i = 4 ∨ i = 5 ∨ i = 6 ∨ i = 7 ∨ i = 8 by omega) with rfl | rfl | rfl | rfl | rfl | rfl | rfl | rfl | rfl <;> simp [madeCells, hm, Value.cells]
def prog0 (es : List Sl) (v : Nat) : PL := (es[v]?.getD sl0).L
def hands0 (al z : Nat) (es : List Sl) (k v : Nat) : Nat → Value := if v < k then hand0 al z v (es[v]?.getD sl0).val else hz0
theorem JH.congr {w : World} {B nh : Nat} {hs hs' : Nat → Nat → Value} (h : JH w B nh hs) (he : ∀ v, v < nh → ∀ i, i < 9 → hs' v i = hs v i) : JH w B nh hs' := by
  obtain ⟨C, h1, h2, h3, h4⟩ := h
  exact ⟨C, h1, h2, fun v hv i hi => by rw [he v hv i hi]; exact h3 v hv i hi, fun v hv i hi => by rw [he v hv i hi]; exact h4 v hv i hi⟩
theorem JH.fill {w : World} {B nh al z k : Nat} {es : List Sl} (h : JH w B nh (hands0 al z es k)) (_hk : k < nh) {d : Value} (hd : (es[k]?.getD sl0).val = d) (h1 : d.oneCell' = true) {wy : Value} (hw : fWay al = wy) (h2 : wy.oneCell' = true) :
    JH (((((((((w.setCell ⟨B, k * 9, none⟩ (I k)).setCell ⟨B, k * 9 + 1, none⟩ d).setCell ⟨B, k * 9 + 2, none⟩ (.slice none 0 0)).setCell ⟨B, k * 9 + 3, none⟩ wy).setCell ⟨B, k * 9 + 4, none⟩ (jp z)).setCell ⟨B, k * 9 + 5, none⟩ (.pointer none)).setCell ⟨B, k * 9 + 6, none⟩ (.pointer none)).setCell ⟨B, k * 9 + 7, none⟩ .nilFunc).setCell ⟨B, k * 9 + 8, none⟩ (.bool false)) B nh (hands0 al z es (k + 1)) := by
  have a0 := h.set (v := k) (i := 0) (by omega) (I k) rfl
  have a1 := a0.set (v := k) (i := 1) (by omega) d h1
  have a2 := a1.set (v := k) (i := 2) (by omega) (.slice none 0 0) rfl
  have a3 := a2.set (v := k) (i := 3) (by omega) wy h2
  have a4 := a3.set (v := k) (i := 4) (by omega) (jp z) rfl
  have a5 := a4.set (v := k) (i := 5) (by omega) (.pointer none) rfl
  have a6 := a5.set (v := k) (i := 6) (by omega) (.pointer none) rfl
  have a7 := a6.set (v := k) (i := 7) (by omega) .nilFunc rfl
  have a8 := a7.set (v := k) (i := 8) (by omega) (.bool false) rfl
  refine a8.congr fun v hv i hi => ?_
  by_cases e : v = k
  · subst e
    simp only [upd_same]
    unfold hands0
    rw [if_pos (by omega), hd]
    unfold hand0
    rw [hw]
    rcases (show i = 0 ∨ i = 1 ∨ i = 2 ∨ i = 3 ∨ i = 4 ∨ i = 5 ∨ i = 6 ∨ i = 7 ∨ i = 8 by omega) with rfl | rfl | rfl | rfl | rfl | rfl | rfl | rfl | rfl <;> simp [upd]
  · simp only [upd_other _ _ e]
    unfold hands0
    by_cases h : v < k
    · rw [if_pos h, if_pos (by omega)]
    · rw [if_neg h, if_neg (by omega)]
theorem gs_begin {al base B nh z : Nat} {es : List Sl} {l : List Int} {w : World} (hjs : JS base B nh (fun i => z + i) (st0 l) (fun _ => false) (hands0 al z es nh) w) (hlen : es.length = nh) (hok : ∀ s ∈ es, s.ok w ∧ s.n ≤ 4 ∧ (0 < s.n → ∀ ad, s.A = some ad → ad.block < base)) :
    GS al base B nh (prog0 es) (Wd.begin_ l) (fun i => z + i) (hands0 al z es nh) w := by
  refine ⟨hjs, fun v hv => ?_, fun v v' hv hv' hne g hg => ?_, fun v b hb => by cases hb⟩
  · have hvl : v < es.length := by omega
    have he : es[v]?.getD sl0 = es[v] := by rw [List.getElem?_eq_getElem hvl]; rfl
    obtain ⟨a1, a2, a3⟩ := hok es[v] (List.getElem_mem hvl)
    have hps : PS w es[v].A es[v].n es[v].c es[v].L := a1
    have hpl : (prog0 es v).length = es[v].n := by unfold prog0; rw [he]; exact hps.len
    have hh : hands0 al z es nh v = hand0 al z v es[v].val := by unfold hands0; rw [if_pos hv, he]
    rw [hh]
    refine ⟨⟨rfl, by rw [hpl]; exact a2, ⟨es[v].A, es[v].c, by rw [hpl]; rfl, ?_, by rw [hpl]; exact a3⟩, OwnD.nil _ _⟩, rfl, rfl, fun _ => rfl, fun b hb => by cases hb⟩
    rw [hpl]
    unfold prog0
    rw [he]
    exact hps
  · have hh : hands0 al z es nh v 2 = .slice none 0 0 := by unfold hands0; rw [if_pos hv]; rfl
    rw [hh] at hg
    cases hg

end Go.Proofs.Ytfmdpmebllepeaa

/-
  package hands: run: all steps of all hands.
-/
namespace Go.Proofs.Ytfmdpmebllepeaa
open Go.RowKit

def ordN (nh : Nat) (ord : List Int) : List Nat := ord.filterMap fun x : Int => if 0 ≤ x ∧ x < (nh : Int) then some x.toNat else none
theorem ordN_lt {nh : Nat} {ord : List Int} : ∀ v ∈ ordN nh ord, v < nh := by
  intro v hv
  unfold ordN at hv
  obtain ⟨x, _, hx⟩ := List.mem_filterMap.mp hv
  split at hx
  · cases hx; omega
  · cases hx
theorem ordN_len (nh : Nat) (ord : List Int) : (ordN nh ord).length ≤ ord.length := List.length_filterMap_le ..
theorem ordN_yes {nh k : Nat} {ord : List Int} (hk : k < ord.length) {v : Nat} (hv : ord[k] = v) (hlt : v < nh) : ordN nh (ord.take (k + 1)) = ordN nh (ord.take k) ++ [v] := by
  unfold ordN
  rw [List.take_succ_eq_append_getElem hk, List.filterMap_append, hv]
  simp [hlt]
theorem ordN_no {nh k : Nat} {ord : List Int} (hk : k < ord.length) (hno : ¬ (0 ≤ ord[k] ∧ ord[k] < nh)) : ordN nh (ord.take (k + 1)) = ordN nh (ord.take k) := by
  unfold ordN
  rw [List.take_succ_eq_append_getElem hk, List.filterMap_append]
  simp [hno]
section
variable {A : Alg} {D : Nat → Nat → Int × Int} {len : Nat → Nat}
theorem runs_snoc (W : Wd) (ws : List Nat) (v : Nat) : W.runs A D len (ws ++ [v]) = (W.runs A D len ws).go1 A D len v := by unfold Wd.runs; rw [List.foldl_append]; rfl
theorem runs_idle {W : Wd} : ∀ (ws : List Nat), (∀ v ∈ ws, ¬ W.ix v < len v) → W.runs A D len ws = W := by
  intro ws
  induction ws with
  | nil => intro _; rfl
  | cons a ws ih =>
    intro h
    show (W.go1 A D len a).runs A D len ws = W
    have e : W.go1 A D len a = W := by unfold Wd.go1; rw [if_neg (h a (List.mem_cons_self ..))]
    rw [e]
    exact ih fun v hv => h v (List.mem_cons_of_mem _ hv)
theorem rounds_idle {nh : Nat} {W : Wd} (h : ∀ v, v < nh → ¬ W.ix v < len v) : ∀ k, W.rounds A D len nh k = W := by
  intro k
  induction k with
  | zero => rfl
  | succ k ih =>
    show (W.rounds A D len nh k).runs A D len (List.range nh) = W
    rw [ih]
    exact runs_idle _ fun v hv => h v (List.mem_range.mp hv)
theorem rounds_add {nh : Nat} (W : Wd) (k : Nat) : ∀ m, W.rounds A D len nh (k + m) = (W.rounds A D len nh k).rounds A D len nh m := by
  intro m
  induction m with
  | zero => rfl
  | succ m ih => show (W.rounds A D len nh (k + m)).runs A D len (List.range nh) = _; rw [ih]; rfl
theorem rounds_stop {nh k K : Nat} {W : Wd} (hk : k ≤ K) (h : ∀ v, v < nh → ¬ (W.rounds A D len nh k).ix v < len v) : W.rounds A D len nh K = W.rounds A D len nh k := by
  obtain ⟨m, rfl⟩ : ∃ m, K = k + m := ⟨K - k, by omega⟩
  rw [rounds_add]
  exact rounds_idle h m
end
structure ListOk (s : Bs) : Prop where
  h0 : 0 < s.sz
  h0t : 0 ≠ s.tl
  htl : s.tl < s.sz
  hnl : ∀ i, i < s.sz → i ≠ s.tl → s.nx i < s.sz
  hk : s.key s.tl = 10
  hk2 : ∀ i, i < s.sz → i ≠ s.tl → s.key i ≠ 10
  hup : ∀ i, i < s.sz → i ≠ s.tl → s.key i < s.key (s.nx i)
  hkb : ∀ i, i < s.sz → s.key i ≤ 10
  kb : KB s
structure Sound (al nh : Nat) (P : Nat → PL) (l ord : List Int) (Inv : Wd → Prop) : Prop where
  i0 : Inv (Wd.begin_ l)
  go : ∀ {W v}, Inv W → v < nh → W.ix v < (P v).length → Inv (W.go (alg al) (dds P) v)
  ok : ∀ {W}, Inv W → Okay al P W
  lf : ∀ {W}, Inv W → ListOk W.s
  nows : ∀ k, k ≤ 875 → (((Wd.begin_ l).runs (alg al) (dds P) (fun v => (P v).length) (ordN nh ord)).rounds (alg al) (dds P) (fun v => (P v).length) nh k).now ≤ 500 + 4 * k
  fin : ∀ v, v < nh → ¬ (((Wd.begin_ l).runs (alg al) (dds P) (fun v => (P v).length) (ordN nh ord)).rounds (alg al) (dds P) (fun v => (P v).length) nh 875).ix v < (P v).length
def Wend (al nh : Nat) (P : Nat → PL) (l ord : List Int) : Wd := ((Wd.begin_ l).runs (alg al) (dds P) (fun v => (P v).length) (ordN nh ord)).rounds (alg al) (dds P) (fun v => (P v).length) nh 875
section
variable {al nh : Nat} {P : Nat → PL} {l ord : List Int} {Inv : Wd → Prop}
theorem Sound.go1 (h : Sound al nh P l ord Inv) {W : Wd} {v : Nat} (hW : Inv W) (hv : v < nh) : Inv (W.go1 (alg al) (dds P) (fun v => (P v).length) v) := by
  unfold Wd.go1
  by_cases hi : W.ix v < (P v).length
  · rw [if_pos hi]; exact h.go hW hv hi
  · rw [if_neg hi]; exact hW
theorem Sound.runs (h : Sound al nh P l ord Inv) : ∀ (ws : List Nat) {W : Wd}, Inv W → (∀ v ∈ ws, v < nh) → Inv (W.runs (alg al) (dds P) (fun v => (P v).length) ws) := by
  intro ws
  induction ws with
  | nil => intro W hW _; exact hW
  | cons a ws ih => intro W hW hlt; exact ih (h.go1 hW (hlt a (List.mem_cons_self ..))) fun v hv => hlt v (List.mem_cons_of_mem _ hv)
theorem Sound.rounds (h : Sound al nh P l ord Inv) {W : Wd} (hW : Inv W) : ∀ k, Inv (W.rounds (alg al) (dds P) (fun v => (P v).length) nh k) := by
  intro k
  induction k with
  | zero => exact hW
  | succ k ih => exact h.runs _ ih fun v hv => List.mem_range.mp hv
theorem may_go1 {W : Wd} (v : Nat) (h : W.now < 4000) : W.may (alg al) P v = W.go1 (alg al) (dds P) (fun v => (P v).length) v := by
  unfold Wd.may Wd.go1
  by_cases hi : W.ix v < (P v).length
  · rw [if_pos ⟨h, hi⟩, if_pos hi]
  · rw [if_neg (fun e => hi e.2), if_neg hi]
end

end Go.Proofs.Ytfmdpmebllepeaa

/-
  package hands: check: may they begin?
-/
namespace Go.Proofs.Ytfmdpmebllepeaa
open Go.RowKit

def dbad (d : Int × Int) : Bool := !(decide ((d.1 = 1 ∨ d.1 = 2 ∨ d.1 = 3) ∧ (0 ≤ d.2 ∧ d.2 ≤ 9)))
def kok (k : Int) : Bool := decide (0 ≤ k ∧ k ≤ 9)
set_option maxRecDepth 100000 in
theorem isKeyH_any (k : Int) (w : World) {b : Bool} (hb : kok k = b) : Calls Try.prog 30 #[I k] w fun e w' => e = .returned (.bool b) ∧ w' = w := by
  unfold kok at hb
  by_cases h1 : -1 < k
  · by_cases h2 : k < 10
    · obtain rfl : b = true := by rw [← hb]; simp; omega
      clear hb
      go_enter Try.func30, Try.ntmps30
      go_wp2
      go_ret
      exact ⟨by first | rfl | simp, rfl⟩
    · obtain rfl : b = false := by rw [← hb]; simp; omega
      clear hb
      go_enter Try.func30, Try.ntmps30
      go_wp2
      go_ret
      exact ⟨by first | rfl | simp, rfl⟩
  · obtain rfl : b = false := by rw [← hb]; simp; omega
    clear hb
    go_enter Try.func30, Try.ntmps30
    go_wp2
    go_ret
    exact ⟨by first | rfl | simp, rfl⟩
set_option maxRecDepth 100000 in
theorem isLong_any (A : Option Addr) (n c : Nat) (w : World) : Calls Try.prog 29 #[.slice A n c] w fun e w' => e = .returned (.bool (decide (4 < n))) ∧ w' = w := by
  go_enter Try.func29, Try.ntmps29
  go_wp2
  go_ret
  exact ⟨by simp; omega, rfl⟩
set_option maxRecDepth 100000 in
set_option maxHeartbeats 4000000 in
theorem isBad_any (d : Int × Int) (w : World) {b : Bool} (hb : dbad d = b) : Calls Try.prog 32 #[.agg #[I d.1, I d.2]] w fun e w' => e = .returned (.bool b) ∧ Below w.heap.size w w' := by
  obtain ⟨kd, K⟩ := d
  unfold dbad at hb
  simp only at hb ⊢
  have HB : Hid (Below w.heap.size w (w.alloc (.cells #[I kd, I K] 50))) := (Below.refl _ _).alloc (Nat.le_refl _) _
  by_cases h1 : kd = 1 ∨ kd = 2 ∨ kd = 3
  · have hbb : b = !kok K := by rw [← hb]; unfold kok; simp [h1]
    have HK := Lib.hid (isKeyH_any K (w.alloc (.cells #[I kd, I K] 50)) rfl)
    have HBB := Lib.hid hbb
    clear hb hbb
    rcases h1 with rfl | rfl | rfl
    all_goals
      (go_enter Try.func32, Try.ntmps32
       go_wp2_with fail
       refine HK.out.mono ?_
       rintro e w1 ⟨rfl, rfl⟩
       go_wp2
       go_ret
       exact ⟨by rw [HBB.out]; rfl, HB.out⟩)
  · obtain rfl : b = true := by rw [← hb]; simp [h1]
    have h11 : ¬ kd = 1 := fun e => h1 (.inl e)
    have h12 : ¬ kd = 2 := fun e => h1 (.inr (.inl e))
    have h13 : ¬ kd = 3 := fun e => h1 (.inr (.inr e))
    clear hb h1
    go_enter Try.func32, Try.ntmps32
    go_wp2
    go_ret
    exact ⟨rfl, HB.out⟩
def fix1 {α : Type} (p : α → Bool) (l : List α) : Int := match l.findIdx? p with
  | some i => i
  | none => -1
theorem fix1_any {α : Type} (p : α → Bool) (l : List α) : decide (0 ≤ fix1 p l) = l.any p := by
  unfold fix1
  cases h : l.findIdx? p with
  | some i =>
    have := List.findIdx?_eq_some_iff_getElem.mp h
    obtain ⟨hi, hp, _⟩ := this
    have : l.any p = true := List.any_eq_true.mpr ⟨_, List.getElem_mem hi, hp⟩
    rw [this]
    simp
  | none =>
    have h2 : l.any p = false := by
      rw [List.any_eq_false]
      intro x hx
      simp [List.findIdx?_eq_none_iff.mp h x hx]
    rw [h2]
    rfl
theorem fix1_hit {α : Type} {p : α → Bool} {l : List α} {k : Nat} (hk : k < l.length) (h : p l[k] = true) (hno : ∀ j (hj : j < l.length), j < k → p l[j] = false) : fix1 p l = k := by
  have : l.findIdx? p = some k := by
    rw [List.findIdx?_eq_some_iff_getElem]
    exact ⟨hk, h, fun j hj => by simp [hno j (by omega) hj]⟩
  simp [fix1, this]
theorem fix1_none {α : Type} {p : α → Bool} {l : List α} (hno : ∀ j (hj : j < l.length), p l[j] = false) : fix1 p l = -1 := by
  have : l.findIdx? p = none := by
    rw [List.findIdx?_eq_none_iff]
    intro x hx
    obtain ⟨j, hj, rfl⟩ := List.getElem_of_mem hx
    simp [hno j hj]
  simp [fix1, this]
set_option maxRecDepth 100000 in
set_option maxHeartbeats 4000000 in
theorem ixBad_any (A : Option Addr) (n c : Nat) (l : PL) (w : World) (h : PS w A n c l) (hn : n ≤ 9223372036854775807) :
    Calls Try.prog 71 #[.slice A n c, .func (.func 32) #[] #[]] w fun e w' => e = .returned (I (fix1 dbad l)) ∧ Below w.heap.size w w' := by
  have H := Lib.hid h
  have HL := Lib.hid h.len
  clear h
  go_enter Try.func71, Try.ntmps71
  go_wp2
  go_loopw [8] (fun i wr => ∃ k : Nat, k ≤ n ∧ i = .int .i64 k ∧ (∀ j (hj : j < l.length), j < k → dbad l[j] = false) ∧ Below w.heap.size w wr) (fun i _ => n - (intOf i).toNat)
  case atStart => exact ⟨0, Nat.zero_le _, rfl, fun j _ hj => absurd hj (by omega), Below.refl _ _⟩
  case round =>
    obtain ⟨k, hk, rfl, hno, hbl⟩ := hrel
    have HNO := Lib.hid hno
    have HBL := Lib.hid hbl
    by_cases hlt : k < n
    · obtain ⟨b, off, rfl, hb, hc⟩ := H.out.at_ (by omega)
      have hkl : k < l.length := by rw [HL.out]; exact hlt
      have hc0 : wr.cell? ⟨b, off + k * 2, none⟩ = some (I l[k].1) := (hbl.cell (by exact hb)).trans (hc k hlt).1
      have hc1 : wr.cell? ⟨b, off + k * 2 + 1, none⟩ = some (I l[k].2) := (hbl.cell (by exact hb)).trans (hc k hlt).2
      have HCALL := fun (b : Bool) (hb : dbad l[k] = b) => isBad_any l[k] wr (b := b) hb
      cases hd : dbad l[k] with
      | true =>
        have HC := Lib.hid (HCALL true hd)
        have HF : Hid (fix1 dbad l = k) := fix1_hit hkl hd hno
        clear hno hbl hc HCALL hd
        go_wp2_with fail
        refine HC.out.mono ?_
        rintro e w1 ⟨rfl, hb1⟩
        have HB1 := Lib.hid (HBL.out.trans (hb1.mono HBL.out.size))
        clear hb1
        go_wp2
        go_ret
        exact ⟨ret_int (by rw [HF.out]), HB1.out⟩
      | false =>
        have HC := Lib.hid (HCALL false hd)
        have HN : Hid (∀ j (hj : j < l.length), j < k + 1 → dbad l[j] = false) := fun j hj hjk => by
          by_cases e : j = k
          · subst e; exact hd
          · exact hno j hj (by omega)
        clear hno hbl hc HCALL hd
        go_wp2_with fail
        refine HC.out.mono ?_
        rintro e w1 ⟨rfl, hb1⟩
        have HB1 := Lib.hid (HBL.out.trans (hb1.mono HBL.out.size))
        clear hb1
        go_wp2
        go_roundw
        case rel => exact ⟨k + 1, by omega, by go_num, HN.out, HB1.out⟩
        case measure => simp [intOf]; omega
    · have HF : Hid (fix1 dbad l = -1) := fix1_none fun j hj => hno j hj (by rw [HL.out] at hj; omega)
      clear hno hbl
      go_wp2
      go_ret
      exact ⟨ret_int (by rw [HF.out]), HBL.out⟩
set_option maxRecDepth 100000 in
set_option maxHeartbeats 4000000 in
theorem conBad_any (A : Option Addr) (n c : Nat) (l : PL) (w : World) (h : PS w A n c l) (hn : n ≤ 9223372036854775807) :
    Calls Try.prog 31 #[.slice A n c, .func (.func 32) #[] #[]] w fun e w' => e = .returned (.bool (l.any dbad)) ∧ Below w.heap.size w w' := by
  have HC := Lib.hid (ixBad_any A n c l w h hn)
  have HF := Lib.hid (fix1_any dbad l)
  clear h
  obtain ⟨x, hx⟩ : ∃ x, fix1 dbad l = x := ⟨_, rfl⟩
  rw [hx] at HC HF
  clear hx
  go_enter Try.func31, Try.ntmps31
  go_wp2_with fail
  refine HC.out.mono ?_
  rintro e w1 ⟨rfl, hb1⟩
  have HB1 := Lib.hid hb1
  clear hb1
  go_wp2
  go_ret
  exact ⟨by rw [← HF.out]; first | rfl | simp, HB1.out⟩
def lng (s : Sl) : Bool := decide (4 < s.n)
set_option maxRecDepth 100000 in
set_option maxHeartbeats 4000000 in
theorem ixLong_any (A : Option Addr) (n c : Nat) (es : List Sl) (w : World) (h : RS w A n c es) (hn : n ≤ 9223372036854775807) :
    Calls Try.prog 70 #[.slice A n c, .func (.func 29) #[] #[]] w fun e w' => e = .returned (I (fix1 lng es)) ∧ w' = w := by
  have H := Lib.hid h
  have HL := Lib.hid h.len
  clear h
  go_enter Try.func70, Try.ntmps70
  go_wp2
  go_loopw [8] (fun i wr => ∃ k : Nat, k ≤ n ∧ i = .int .i64 k ∧ (∀ j (hj : j < es.length), j < k → lng es[j] = false) ∧ wr = w) (fun i _ => n - (intOf i).toNat)
  case atStart => exact ⟨0, Nat.zero_le _, rfl, fun j _ hj => absurd hj (by omega), rfl⟩
  case round =>
    obtain ⟨k, hk, rfl, hno, rfl⟩ := hrel
    have HNO := Lib.hid hno
    by_cases hlt : k < n
    · obtain ⟨b, off, rfl, hb, hc⟩ := H.out.at_ (by omega)
      have hkl : k < es.length := by rw [HL.out]; exact hlt
      have hc0 : wr.cell? ⟨b, off + k, none⟩ = some es[k].val := hc k hlt
      obtain ⟨sA, sn, sc, hsv⟩ : ∃ sA sn sc, es[k].val = .slice sA sn sc ∧ lng es[k] = decide (4 < sn) := ⟨_, _, _, rfl, rfl⟩
      rw [hsv.1] at hc0
      by_cases hd : 4 < sn
      · have HF : Hid (fix1 lng es = k) := fix1_hit hkl (by rw [hsv.2]; simpa using hd) hno
        have hcl := isLong_any sA sn sc wr
        rw [decide_eq_true hd] at hcl
        have HC := Lib.hid hcl
        clear hno hc hsv hcl hd
        go_wp2_with fail
        refine HC.out.mono ?_
        rintro e w1 ⟨rfl, rfl⟩
        go_wp2
        go_ret
        exact ⟨ret_int (by rw [HF.out]), rfl⟩
      · have HN : Hid (∀ j (hj : j < es.length), j < k + 1 → lng es[j] = false) := fun j hj hjk => by
          by_cases e : j = k
          · subst e; rw [hsv.2]; simpa using hd
          · exact hno j hj (by omega)
        have hcl := isLong_any sA sn sc wr
        rw [decide_eq_false hd] at hcl
        have HC := Lib.hid hcl
        clear hno hc hsv hcl hd
        go_wp2_with fail
        refine HC.out.mono ?_
        rintro e w1 ⟨rfl, rfl⟩
        go_wp2
        go_roundw
        case rel => exact ⟨k + 1, by omega, by go_num, HN.out, by first | rfl | trivial⟩
        case measure => simp [intOf]; omega
    · have HF : Hid (fix1 lng es = -1) := fix1_none fun j hj => hno j hj (by rw [HL.out] at hj; omega)
      clear hno
      go_wp2
      go_ret
      exact ⟨ret_int (by rw [HF.out]), rfl⟩
set_option maxRecDepth 100000 in
set_option maxHeartbeats 4000000 in
theorem conLong_any (A : Option Addr) (n c : Nat) (es : List Sl) (w : World) (h : RS w A n c es) (hn : n ≤ 9223372036854775807) :
    Calls Try.prog 28 #[.slice A n c, .func (.func 29) #[] #[]] w fun e w' => e = .returned (.bool (es.any lng)) ∧ w' = w := by
  have HC := Lib.hid (ixLong_any A n c es w h hn)
  have HF := Lib.hid (fix1_any lng es)
  clear h
  obtain ⟨x, hx⟩ : ∃ x, fix1 lng es = x := ⟨_, rfl⟩
  rw [hx] at HC HF
  clear hx
  go_enter Try.func28, Try.ntmps28
  go_wp2_with fail
  refine HC.out.mono ?_
  rintro e w1 ⟨rfl, rfl⟩
  go_wp2
  go_ret
  exact ⟨by rw [← HF.out]; first | rfl | simp, rfl⟩

instance (l : List Int) : Decidable (Ris l) := by unfold Ris; infer_instance
def chkH (l : List Int) (es : List Sl) (on : Nat) : Int := if 4 < es.length ∨ es.any lng = true ∨ 500 < on then 2 else if ¬ Ris l then 3 else if es.any (fun s => s.L.any dbad) = true then 3 else 0
def RisT (l : List Int) (k : Nat) : Prop := (∀ i (hi : i < l.length), i < k → 0 ≤ l[i] ∧ l[i] ≤ 9) ∧ ∀ i (hi : i + 1 < l.length), i + 1 < k → l[i] < l[i + 1]
theorem ris_of {l : List Int} (h : RisT l l.length) : Ris l := by
  refine ⟨List.pairwise_iff_getElem.mpr ?_, fun x hx => ?_⟩
  · intro i j hi hj hij
    have : ∀ d, ∀ (hd : i + d + 1 < l.length), l[i] < l[i + d + 1] := by
      intro d
      induction d with
      | zero => intro hd; exact h.2 i hd hd
      | succ d ih =>
        intro hd
        have h1 := ih (by omega)
        have h2 := h.2 (i + d + 1) (by omega) (by omega)
        exact Int.lt_trans h1 h2
    have := this (j - i - 1) (by omega)
    have e : i + (j - i - 1) + 1 = j := by omega
    simp only [e] at this
    exact this
  · obtain ⟨i, hi, rfl⟩ := List.getElem_of_mem hx
    exact h.1 i hi hi
theorem ris_at {l : List Int} (h : Ris l) {i : Nat} (hi : i < l.length) : (0 ≤ l[i] ∧ l[i] ≤ 9) ∧ ∀ (hp : i + 1 < l.length), l[i] < l[i + 1] := ⟨h.2 _ (List.getElem_mem hi), fun hp => List.pairwise_iff_getElem.mp h.1 i (i + 1) hi hp (by omega)⟩
set_option maxRecDepth 100000 in
set_option maxHeartbeats 8000000 in
theorem checkH_any (A PA OA : Option Addr) (n c nh pc on oc : Nat) (l : List Int) (es : List Sl) (w : World) (h : IS w A n c l) (hP : RS w PA nh pc es) (hn : n ≤ 9223372036854775807) (hnh : nh ≤ 9223372036854775807) (hon : on ≤ 9223372036854775807) (hes : ∀ s ∈ es, s.n ≤ 9223372036854775807) :
    Calls Try.prog 13 #[.slice A n c, .slice PA nh pc, .slice OA on oc] w fun e w' => e = .returned (I (chkH l es on)) ∧ Below w.heap.size w w' := by
  have H := Lib.hid h
  have HP := Lib.hid hP
  have HES := Lib.hid hes
  have HCL := Lib.hid (conLong_any PA nh pc es w hP hnh)
  have hlen := hP.len
  by_cases h4 : 4 < nh
  · have HE : Hid (chkH l es on = 2) := by show _ = _; unfold chkH; rw [if_pos (.inl (by rw [hlen]; exact h4))]
    clear h hP hes hlen
    go_enter Try.func13, Try.ntmps13
    go_wp2
    go_ret
    exact ⟨ret_int (by rw [HE.out]), Below.refl _ _⟩
  · cases hlg : es.any lng with
    | true =>
      have HE : Hid (chkH l es on = 2) := by show _ = _; unfold chkH; rw [if_pos (.inr (.inl hlg))]
      rw [hlg] at HCL
      clear h hP hes hlen hlg
      go_enter Try.func13, Try.ntmps13
      go_wp2_with fail
      refine HCL.out.mono ?_
      rintro e w1 ⟨rfl, rfl⟩
      go_wp2
      go_ret
      exact ⟨ret_int (by rw [HE.out]), Below.refl _ _⟩
    | false =>
      rw [hlg] at HCL
      by_cases h5 : 500 < on
      · have HE : Hid (chkH l es on = 2) := by show _ = _; unfold chkH; rw [if_pos (.inr (.inr h5))]
        clear h hP hes hlen hlg
        go_enter Try.func13, Try.ntmps13
        go_wp2_with fail
        refine HCL.out.mono ?_
        rintro e w1 ⟨rfl, rfl⟩
        go_wp2
        go_ret
        exact ⟨ret_int (by rw [HE.out]), Below.refl _ _⟩
      · have HE : Hid (chkH l es on = if ¬ Ris l then 3 else if es.any (fun s => s.L.any dbad) = true then 3 else 0) := by show _ = _; unfold chkH; rw [if_neg (by rw [hlen, hlg]; simp; omega)]
        have HL := Lib.hid h.len
        have HPL := Lib.hid hlen
        clear h hP hes hlen hlg
        go_enter Try.func13, Try.ntmps13
        go_wp2_with fail
        refine HCL.out.mono ?_
        rintro e w1 ⟨rfl, hw1⟩
        have hw2 := hw1.symm
        subst hw2
        go_wp2
        go_loopw [25] (fun iv wr => ∃ k : Nat, k ≤ n ∧ iv = .int .i64 k ∧ RisT l k ∧ wr = w) (fun iv _ => n - (intOf iv).toNat)
        case atStart => exact ⟨0, Nat.zero_le _, rfl, ⟨fun i _ hi => absurd hi (by omega), fun i _ hi => absurd hi (by omega)⟩, rfl⟩
        case round =>
          obtain ⟨k, hk, rfl, hr, rfl⟩ := hrel
          have HR := Lib.hid hr
          clear hr
          by_cases hlt : k < n
          · obtain ⟨b, off, rfl, hb, hc⟩ := H.out.at_ (by omega)
            have hkl : k < l.length := by rw [HL.out]; exact hlt
            have hck : wr.cell? ⟨b, off + k, none⟩ = some (I l[k]) := hc k hlt
            cases hkk : kok l[k] with
            | false =>
              have HEE : Hid (chkH l es on = 3) := by
                show _ = _
                rw [HE.out, if_pos]
                intro hr
                have := (ris_at hr hkl).1
                unfold kok at hkk
                simp at hkk
                omega
              have HK := Lib.hid (isKeyH_any l[k] wr hkk)
              obtain ⟨x, hx⟩ : ∃ x, l[k] = x := ⟨_, rfl⟩
              rw [hx] at hck HK
              clear hc hkk hx
              go_wp2_with fail
              refine HK.out.mono ?_
              rintro e w1 ⟨rfl, rfl⟩
              go_wp2
              go_ret
              exact ⟨ret_int (by rw [HEE.out]), Below.refl _ _⟩
            | true =>
              have hk9 : 0 ≤ l[k] ∧ l[k] ≤ 9 := by unfold kok at hkk; simpa using hkk
              have HK := Lib.hid (isKeyH_any l[k] wr hkk)
              by_cases hk0 : 0 < k
              · have hkl1 : k - 1 < l.length := by omega
                have hcp : wr.cell? ⟨b, off + (k - 1), none⟩ = some (I l[k - 1]) := hc (k - 1) (by omega)
                have hw1 : IntKind.i64.wrap ((k : Int) - 1) = ((k - 1 : Nat) : Int) := by rw [IntWalk.i64_in _ (by omega)]; omega
                have hk1n : ((k - 1 : Nat) : Int) < (n : Int) := by omega
                have hk10 : 0 ≤ ((k - 1 : Nat) : Int) := by omega
                by_cases hup : l[k] ≤ l[k - 1]
                · have HEE : Hid (chkH l es on = 3) := by
                    show _ = _
                    rw [HE.out, if_pos]
                    intro hr
                    have := (ris_at hr hkl1).2 (by omega)
                    have e : k - 1 + 1 = k := by omega
                    simp only [e] at this
                    omega
                  obtain ⟨x, hx⟩ : ∃ x, l[k] = x := ⟨_, rfl⟩
                  obtain ⟨y, hy⟩ : ∃ y, l[k - 1] = y := ⟨_, rfl⟩
                  rw [hx] at hck HK hup
                  rw [hy] at hcp hup
                  clear hc hkk hx hk9 hy
                  generalize k - 1 = k1 at *
                  go_wp2_with fail
                  refine HK.out.mono ?_
                  rintro e w1 ⟨rfl, rfl⟩
                  go_wp2
                  go_ret
                  exact ⟨ret_int (by rw [HEE.out]), Below.refl _ _⟩
                · have HN : Hid (RisT l (k + 1)) := ⟨fun i hi hik => by
                    by_cases e : i = k
                    · subst e; exact hk9
                    · exact HR.out.1 i hi (by omega), fun i hi hik => by
                    by_cases e : i + 1 = k
                    · subst e
                      have : l[i + 1 - 1] = l[i] := by congr 1
                      rw [this] at hup
                      omega
                    · exact HR.out.2 i hi (by omega)⟩
                  obtain ⟨x, hx⟩ : ∃ x, l[k] = x := ⟨_, rfl⟩
                  obtain ⟨y, hy⟩ : ∃ y, l[k - 1] = y := ⟨_, rfl⟩
                  rw [hx] at hck HK hup
                  rw [hy] at hcp hup
                  clear hc hkk hx hk9 hy
                  generalize hkk1 : k - 1 = k1 at *
                  have HKK := Lib.hid hkk1
                  clear hkk1
                  go_wp2_with fail
                  refine HK.out.mono ?_
                  rintro e w1 ⟨rfl, rfl⟩
                  go_wp2
                  go_roundw
                  case rel => exact ⟨k + 1, by omega, by go_num, HN.out, by first | rfl | trivial⟩
                  case measure => simp [intOf]; omega
              · obtain rfl : k = 0 := by omega
                have HN : Hid (RisT l (0 + 1)) := ⟨fun i hi hik => by
                    obtain rfl : i = 0 := by omega
                    exact hk9, fun i hi hik => absurd hik (by omega)⟩
                obtain ⟨x, hx⟩ : ∃ x, l[0] = x := ⟨_, rfl⟩
                rw [hx] at hck HK
                have hck' : wr.cell? ⟨b, off, none⟩ = some (I x) := hck
                clear hc hkk hx hk9 hck
                go_wp2_with fail
                refine HK.out.mono ?_
                rintro e w1 ⟨rfl, rfl⟩
                go_wp2
                go_roundw
                case rel => exact ⟨1, by omega, by first | rfl | go_num, HN.out, by first | rfl | trivial⟩
                case measure => simp [intOf]; omega
          · have HRIS : Hid (Ris l) := ris_of (by have := HR.out; rw [show k = l.length by rw [HL.out]; omega] at this; exact this)
            have HE2 : Hid (chkH l es on = if es.any (fun s => s.L.any dbad) = true then 3 else 0) := by show _ = _; rw [HE.out, if_neg (fun h => h HRIS.out)]
            go_wp2
            obtain ⟨wo, hwo⟩ : ∃ wo, wo = wr := ⟨_, rfl⟩
            subst hwo
            go_loopw [49] (fun iv wr => ∃ k : Nat, k ≤ nh ∧ iv = .int .i64 k ∧ (∀ j (hj : j < es.length), j < k → es[j].L.any dbad = false) ∧ Below wo.heap.size wo wr) (fun iv _ => nh - (intOf iv).toNat)
            case atStart => exact ⟨0, Nat.zero_le _, rfl, fun j _ hj => absurd hj (by omega), Below.refl _ _⟩
            case round =>
              obtain ⟨k, hk, rfl, hno, hbl⟩ := hrel
              have HBL := Lib.hid hbl
              have HNO := Lib.hid hno
              clear hno
              by_cases hlt : k < nh
              · obtain ⟨b, off, rfl, hb, hc⟩ := HP.out.at_ (by omega)
                have hkl : k < es.length := by rw [HPL.out]; exact hlt
                have hck : wr.cell? ⟨b, off + k, none⟩ = some es[k].val := (hbl.cell (by exact hb)).trans (hc k hlt)
                have hps : PS wr es[k].A es[k].n es[k].c es[k].L := PS.below (HP.out.each _ (List.getElem_mem hkl)) hbl
                have HC := conBad_any _ _ _ _ wr hps (HES.out _ (List.getElem_mem hkl))
                obtain ⟨sA, sn, sc, hsv⟩ : ∃ sA sn sc, es[k].A = sA ∧ es[k].n = sn ∧ es[k].c = sc := ⟨_, _, _, rfl, rfl, rfl⟩
                have hcv : wr.cell? ⟨b, off + k, none⟩ = some (.slice sA sn sc) := by rw [hck]; show some (Value.slice es[k].A es[k].n es[k].c) = _; rw [hsv.1, hsv.2.1, hsv.2.2]
                rw [hsv.1, hsv.2.1, hsv.2.2] at HC
                cases hbad : es[k].L.any dbad with
                | true =>
                  rw [hbad] at HC
                  have HC := Lib.hid HC
                  have HEE : Hid (chkH l es on = 3) := by
                    show _ = _
                    rw [HE2.out, if_pos]
                    exact List.any_eq_true.mpr ⟨_, List.getElem_mem hkl, hbad⟩
                  clear hbl hc hck hps hsv hbad
                  go_wp2_with fail
                  refine HC.out.mono ?_
                  rintro e w1 ⟨rfl, hb1⟩
                  have HB1 := Lib.hid (HBL.out.trans (hb1.mono HBL.out.size))
                  clear hb1
                  go_wp2
                  go_ret
                  exact ⟨ret_int (by rw [HEE.out]), HB1.out⟩
                | false =>
                  rw [hbad] at HC
                  have HC := Lib.hid HC
                  have HN : Hid (∀ j (hj : j < es.length), j < k + 1 → es[j].L.any dbad = false) := fun j hj hjk => by
                    by_cases e : j = k
                    · subst e; exact hbad
                    · exact HNO.out j hj (by omega)
                  clear hbl hc hck hps hsv hbad
                  go_wp2_with fail
                  refine HC.out.mono ?_
                  rintro e w1 ⟨rfl, hb1⟩
                  have HB1 := Lib.hid (HBL.out.trans (hb1.mono HBL.out.size))
                  clear hb1
                  go_wp2
                  go_roundw
                  case rel => exact ⟨k + 1, by omega, by go_num, HN.out, HB1.out⟩
                  case measure => simp [intOf]; omega
              · have HEE : Hid (chkH l es on = 0) := by
                  show _ = _
                  rw [HE2.out, if_neg]
                  intro h
                  obtain ⟨s, hs, hb⟩ := List.any_eq_true.mp h
                  obtain ⟨j, hj, rfl⟩ := List.getElem_of_mem hs
                  rw [HNO.out j hj (by rw [HPL.out] at hj; omega)] at hb
                  cases hb
                clear hbl
                go_wp2
                go_ret
                exact ⟨ret_int (by rw [HEE.out]), HBL.out⟩

end Go.Proofs.Ytfmdpmebllepeaa

/-
  package hands: of each of the four ways: what holds at each step, and in the end.
-/
namespace Go.Proofs.Ytfmdpmebllepeaa
open Go.RowKit

theorem Cor.listOk {s : Bs} (h : Cor s) (hk : KB s) : ListOk s where
  h0 := h.pos
  h0t := h.hd.symm
  htl := h.tlt
  hnl := h.nlt
  hk := h.kt
  hk2 := fun i hi hn => by have h1 := h.up i hi hn; have h2 := (hk _ (h.nlt i hi hn)).2; omega
  hup := h.up
  hkb := fun i hi => (hk i hi).2
  kb := hk
theorem NCor.listOk {s : Bs} (h : NCor s) (hk : KB s) : ListOk s where
  h0 := h.pos
  h0t := h.hd.symm
  htl := h.tlt
  hnl := h.nlt
  hk := h.kt
  hk2 := fun i hi hn => by have h1 := h.up i hi hn; have h2 := (hk _ (h.nlt i hi hn)).2; omega
  hup := h.up
  hkb := fun i hi => (hk i hi).2
  kb := hk
theorem ListOk.pn {s : Bs} (h : ListOk s) : ∃ m, Pn s.nx s.tl (s.nx 0) m ∧ m ≤ 1000 := by
  obtain ⟨m, h1, h2⟩ := pn_rise h.hnl h.hup h.kb 1000 (s.nx 0) (h.hnl 0 h.h0 h.h0t) (by have := (h.kb (s.nx 0) (h.hnl 0 h.h0 h.h0t)).1; omega)
  exact ⟨m, h1, h2⟩
structure DOk (nh : Nat) (P : Nat → PL) (l : List Int) : Prop where
  ris : Ris l
  nh4 : nh ≤ 4
  l4 : ∀ v, (P v).length ≤ 4
  out : ∀ v, nh ≤ v → (P v).length = 0
  dees : Dees (dds P) (fun v => (P v).length)
structure PBd (P : Nat → PL) (W : Wd) : Prop where
  blt : ∀ v b, W.bg v = some b → W.ix v < (P v).length
  ixl : ∀ v, W.ix v ≤ (P v).length
theorem PBd.go1 {P : Nat → PL} {W : Wd} (h : PBd P W) (A : Alg) (v : Nat) : PBd P (W.go1 A (dds P) (fun v => (P v).length) v) := by
  unfold Wd.go1
  by_cases hi : W.ix v < (P v).length
  · rw [if_pos hi]
    refine ⟨fun v' b hb => ?_, fun v' => ?_⟩
    · have hb' : upd W.bg v (if (A.step W.s W.lk (W.hs v) (dds P v (W.ix v)).1 (dds P v (W.ix v)).2).over = true then none else some ((W.bg v).getD W.now)) v' = some b := hb
      show upd W.ix v (if (A.step W.s W.lk (W.hs v) (dds P v (W.ix v)).1 (dds P v (W.ix v)).2).over = true then W.ix v + 1 else W.ix v) v' < _
      by_cases e : v' = v
      · subst e
        rw [upd_same] at hb' ⊢
        split at hb'
        · cases hb'
        · rename_i ho
          rw [if_neg ho]
          exact hi
      · rw [upd_other _ _ e] at hb' ⊢
        exact h.blt v' b hb'
    · show upd W.ix v (if (A.step W.s W.lk (W.hs v) (dds P v (W.ix v)).1 (dds P v (W.ix v)).2).over = true then W.ix v + 1 else W.ix v) v' ≤ _
      by_cases e : v' = v
      · subst e
        rw [upd_same]
        split <;> omega
      · rw [upd_other _ _ e]
        exact h.ixl v'
  · rw [if_neg hi]; exact h
theorem PBd.runs {P : Nat → PL} (A : Alg) : ∀ (ws : List Nat) {W : Wd}, PBd P W → PBd P (W.runs A (dds P) (fun v => (P v).length) ws) := by
  intro ws
  induction ws with
  | nil => intro W h; exact h
  | cons a ws ih => intro W h; exact ih (h.go1 A a)
theorem PBd.rounds {P : Nat → PL} (A : Alg) {nh : Nat} {W : Wd} (h : PBd P W) : ∀ k, PBd P (W.rounds A (dds P) (fun v => (P v).length) nh k) := by
  intro k
  induction k with
  | zero => exact h
  | succ k ih => exact PBd.runs A _ ih
theorem PBd.begin_ (P : Nat → PL) (l : List Int) : PBd P (Wd.begin_ l) := ⟨fun v b hb => (by cases hb), fun v => Nat.zero_le _⟩
theorem wend_pb (al nh : Nat) (P : Nat → PL) (l ord : List Int) : PBd P (Wend al nh P l ord) := PBd.rounds _ (PBd.runs _ _ (PBd.begin_ P l)) _
section
variable {nh : Nat} {P : Nat → PL} {l ord : List Int}
theorem sound_one {al : Nat} {A : Alg} {T : AlgT} (hal : alg al = A) (hA : AlgOk A) (hT : AlgTOk A T) {c0 : Nat} (hd : DOk nh P l) (ho : ord.length ≤ 500) (hc : A.cor (st0 l)) (hch : T.chn (st0 l) c0) (hg : T.gl (st0 l) (fun _ => false)) (hB : (T.nr * (c0 + 32) + T.nd * 4) + 3 * (T.lr * (c0 + 32) + T.ld * 4) ≤ 875)
    (hJ : ∀ {s : Bs} {lk : Nat → Bool} {q : Hd} {kd K : Int} {g : Prop}, A.cor s → A.inv s q kd K g → (al = 1 ∧ Cor1 s ∧ KI s q K) ∨ (al = 2 ∧ Cor s ∧ ∃ g, LI s q kd K g) ∨ (al = 3 ∧ Cor s ∧ ∃ g, MI s q kd K g) ∨ (al = 4 ∧ NCor s ∧ NI s q kd K)) :
    Sound al nh P l ord (fun W => ∃ S mv G, HI A (dds P) S mv W ∧ TI A T (dds P) (fun v => (P v).length) nh c0 W G) := by
  obtain ⟨e1, e2, _⟩ := hands_end hA hT hd.dees hd.nh4 hd.l4 hd.out hB hd.ris hc hch hg (ord := ordN nh ord) ordN_lt (Nat.le_trans (ordN_len (nh := nh) (ord := ord)) ho) rfl
  refine ⟨⟨_, _, _, begin_HI hA (dds P) hc, begin_TI hA hT (dds P) hd.ris hch hg⟩, ?_, ?_, ?_, ?_, ?_⟩
  · rintro W v ⟨S, mv, G, h, t⟩ hv hi
    rw [hal]
    obtain ⟨S', mv', h', _⟩ := h.step hA v (hd.dees v _ hi)
    obtain ⟨G', t', _⟩ := t.step hA hT h hv hi hd.dees
    exact ⟨S', mv', G', h', t'⟩
  · rintro W ⟨S, mv, G, h, t⟩ v hi
    refine ⟨⟨hd.dees v _ hi, ?_, hJ (lk := W.lk) h.cor (h.inv v)⟩, h.non v⟩
    cases hl : W.lk W.s.sz with
    | false => rfl
    | true =>
      obtain ⟨w, hw⟩ := t.lk3 _ hl
      have := (own_lt hA hT h t hd.dees hw).2
      omega
  · rintro W ⟨S, mv, G, h, t⟩
    exact (hA.core h.cor).listOk t.kb
  · intro k hk
    rw [hal]
    exact e1 k hk
  · intro v hv
    rw [hal]
    have := (e2 v).1
    omega
theorem sound_over (hd : DOk nh P l) (ho : ord.length ≤ 500) : ∃ Inv, Sound 1 nh P l ord Inv := by
  obtain ⟨a, b, c, d⟩ := over_begin hd.ris
  exact ⟨_, sound_one (al := 1) rfl aOver_ok tOver_ok hd ho a b c d fun h1 h2 => .inl ⟨rfl, h1, h2⟩⟩
theorem sound_lazy (hd : DOk nh P l) (ho : ord.length ≤ 500) : ∃ Inv, Sound 2 nh P l ord Inv := by
  obtain ⟨a, b, c, d⟩ := lazy_begin hd.ris
  exact ⟨_, sound_one (al := 2) rfl aLazy_ok tLazy_ok hd ho a b c d fun h1 h2 => .inr (.inl ⟨rfl, h1, _, h2⟩)⟩
theorem sound_mark (hd : DOk nh P l) (ho : ord.length ≤ 500) : ∃ Inv, Sound 3 nh P l ord Inv := by
  obtain ⟨a, b, c, d⟩ := mark_begin hd.ris
  exact ⟨_, sound_one (al := 3) rfl aMark_ok tMark_ok hd ho a b c d fun h1 h2 => .inr (.inr (.inl ⟨rfl, h1, _, h2⟩))⟩
structure NInv (P : Nat → PL) (W : Wd) : Prop where
  nw : NW (dds P) (fun v => (P v).length) W
  lk : ∀ i, W.lk i = false
  non : ∀ v, W.bg v = none → W.hs v = hd0
theorem NInv.go (hd : DOk nh P l) {W : Wd} {v : Nat} (h : NInv P W) (hi : W.ix v < (P v).length) : NInv P (W.go aNaive (dds P) v) := by
  have e1 : W.go1 aNaive (dds P) (fun v => (P v).length) v = W.go aNaive (dds P) v := by unfold Wd.go1; rw [if_pos hi]
  refine ⟨by rw [← e1]; exact h.nw.go1 hd.dees v, h.lk, fun v' hn => ?_⟩
  have hn' : upd W.bg v (if (aNaive.step W.s W.lk (W.hs v) (dds P v (W.ix v)).1 (dds P v (W.ix v)).2).over = true then none else some ((W.bg v).getD W.now)) v' = none := hn
  show upd W.hs v (aNaive.step W.s W.lk (W.hs v) (dds P v (W.ix v)).1 (dds P v (W.ix v)).2).nh v' = hd0
  by_cases e : v' = v
  · subst e
    rw [upd_same] at hn' ⊢
    split at hn'
    · rename_i ho
      unfold Rel.nh
      rw [if_pos ho]
    · cases hn'
  · rw [upd_other _ _ e] at hn' ⊢
    exact h.non v' hn'
theorem sound_naive (hd : DOk nh P l) (ho : ord.length ≤ 500) : ∃ Inv, Sound 4 nh P l ord Inv := by
  have hb : NW (dds P) (fun v => (P v).length) (Wd.begin_ l) := NW.begin_ _ _ hd.ris
  refine ⟨NInv P, ⟨hb, fun _ => rfl, fun _ _ => rfl⟩, fun h hv hi => h.go hd hi, ?_, fun h => h.nw.cor.listOk h.nw.kb, fun k hk => ?_, fun v hv => ?_⟩
  · intro W h v hi
    exact ⟨⟨hd.dees v _ hi, h.lk _, .inr (.inr (.inr ⟨rfl, h.nw.cor, h.nw.inv v⟩))⟩, h.non v⟩
  · have h1 := (runs_now (A := alg 4) (D := dds P) (len := fun v => (P v).length) (ordN nh ord) (Wd.begin_ l)).2
    have h2 := (rounds_now (A := alg 4) (D := dds P) (len := fun v => (P v).length) (nh := nh) ((Wd.begin_ l).runs (alg 4) (dds P) (fun v => (P v).length) (ordN nh ord)) k).2
    have h3 := ordN_len (nh := nh) (ord := ord)
    have h4 : (Wd.begin_ l).now = 0 := rfl
    have h5 : nh * k ≤ 4 * k := Nat.mul_le_mul_right _ hd.nh4
    omega
  · have := naive_end (nh := nh) hd.dees hd.l4 hd.out (hb.runs hd.dees (ordN nh ord)) (k := 875) (by omega) v
    have h6 : (((Wd.begin_ l).runs (alg 4) (dds P) (fun v => (P v).length) (ordN nh ord)).rounds (alg 4) (dds P) (fun v => (P v).length) nh 875).ix v = (P v).length := this
    omega
theorem sound_any {al : Nat} (hal : al = 1 ∨ al = 2 ∨ al = 3 ∨ al = 4) (hd : DOk nh P l) (ho : ord.length ≤ 500) : ∃ Inv, Sound al nh P l ord Inv := by
  rcases hal with rfl | rfl | rfl | rfl
  · exact sound_over hd ho
  · exact sound_lazy hd ho
  · exact sound_mark hd ho
  · exact sound_naive hd ho
theorem wend_DL {al : Nat} {Inv : Wd → Prop} (hS : Sound al nh P l ord Inv) (hd : DOk nh P l) : (∀ v, (Wend al nh P l ord).ix v = (P v).length) ∧ ∀ v, DL (Wend al nh P l ord) v = (List.range (P v).length).map (tolD (Wend al nh P l ord) v) := by
  have hpb := wend_pb al nh P l ord
  have hix : ∀ v, (Wend al nh P l ord).ix v = (P v).length := fun v => by
    have h1 := hpb.ixl v
    by_cases hv : v < nh
    · have h2 := hS.fin v hv
      have h3 : ¬ (Wend al nh P l ord).ix v < (P v).length := h2
      omega
    · have := hd.out v (by omega)
      omega
  refine ⟨hix, fun v => ?_⟩
  unfold DL
  rw [hix v]
  cases hb : (Wend al nh P l ord).bg v with
  | none => simp
  | some b =>
    have := hpb.blt v b hb
    rw [hix v] at this
    omega
theorem wend_DLs {al : Nat} {Inv : Wd → Prop} (hS : Sound al nh P l ord Inv) (hd : DOk nh P l) : DLs (Wend al nh P l ord) nh = Tdl (Wend al nh P l ord) nh (fun v => (P v).length) := by
  unfold DLs Tdl
  congr 1
  funext v
  exact (wend_DL hS hd).2 v
end

end Go.Proofs.Ytfmdpmebllepeaa

/-
  package hands: run, walked.
-/
namespace Go.Proofs.Ytfmdpmebllepeaa
open Go.RowKit

theorem fWay_is {al : Nat} : ∃ wf, fWay al = .func (.func wf) #[] #[] := by
  unfold fWay
  split
  · exact ⟨_, rfl⟩
  · split
    · exact ⟨_, rfl⟩
    · split <;> exact ⟨_, rfl⟩
theorem JL.mono {w : World} {base base' : Nat} {ad : Nat → Nat} {s : Bs} {lk : Nat → Bool} (h : JL w base ad s lk) (hb : base' ≤ base) : JL w base' ad s lk := ⟨h.bd, h.inj, fun i hi => Nat.le_trans hb (h.ge i hi)⟩
structure JRT (al B nh : Nat) (P : Nat → PL) (z sb mb tb : Nat) (W : Wd) (w0 w : World) : Prop where
  rs : JRS al w0.heap.size B nh P z sb mb tb W w
  bl : Below w0.heap.size w0 w
set_option maxRecDepth 100000 in
set_option maxHeartbeats 8000000 in
theorem run_any {al nh : Nat} {l ord : List Int} {es : List Sl} {Inv : Wd → Prop} (hS : Sound al nh (prog0 es) l ord Inv) (hal : al = 1 ∨ al = 2 ∨ al = 3 ∨ al = 4) (A PA OA : Option Addr) (n c pc on oc m : Nat) (w : World) (h : IS w A n c l) (hn : n ≤ 1000) (hP : RS w PA nh pc es) (hnh : nh ≤ 4) (hes : ∀ s ∈ es, s.n ≤ 4) (hO : IS w OA on oc ord) (hon : on ≤ 500)
    (hpn : Pn (Wend al nh (prog0 es) l ord).s.nx (Wend al nh (prog0 es) l ord).s.tl ((Wend al nh (prog0 es) l ord).s.nx 0) m) (hm : m ≤ 1000) (hDL : ∀ v, v < nh → (DL (Wend al nh (prog0 es) l ord) v).length ≤ 5) :
    Calls Try.prog 14 #[fWay al, .slice A n c, .slice PA nh pc, .slice OA on oc, I 4000] w (RetTold w.heap.size (DLs (Wend al nh (prog0 es) l ord) nh) (lft (Wend al nh (prog0 es) l ord).s m ((Wend al nh (prog0 es) l ord).s.nx 0)) w) := by
  obtain ⟨wf, hwf⟩ := fWay_is (al := al)
  rw [hwf]
  have HWF := Lib.hid hwf
  have HS := Lib.hid hS
  have HPN := Lib.hid hpn
  have HDL := Lib.hid hDL
  have HP := Lib.hid hP
  have HO := Lib.hid hO
  have HES := Lib.hid hes
  have HAL := Lib.hid hal
  obtain ⟨WE, hWE⟩ : ∃ WE, Wend al nh (prog0 es) l ord = WE := ⟨_, rfl⟩
  rw [hWE]
  have HWE := Lib.hid hWE
  obtain ⟨z0, hz0'⟩ : ∃ z0, w.heap.size = z0 := ⟨_, rfl⟩
  have HZ0 := Lib.hid hz0'
  have HA0 : Hid (Below w.heap.size w ((w.alloc (.cells #[I 4000] 3)).alloc (.cells #[.slice none 0 0, .slice none 0 0] 26))) := ((Below.refl _ _).alloc (Nat.le_refl _) _).alloc (by simp) _
  have hls := listOf_any A n c l ((w.alloc (.cells #[I 4000] 3)).alloc (.cells #[.slice none 0 0, .slice none 0 0] 26)) (h.below HA0.out) hn
  rw [show ((w.alloc (.cells #[I 4000] 3)).alloc (.cells #[.slice none 0 0, .slice none 0 0] 26)).heap.size = w.heap.size + 1 + 1 by simp] at hls
  have HMO : Hid (IBox ((w.alloc (.cells #[I 4000] 3)).alloc (.cells #[.slice none 0 0, .slice none 0 0] 26)) w.heap.size 4000) := (Below.heap_alloc _ _ _ (by simp)).trans (heap_alloc_new w _)
  have HTB : Hid (TBk ((w.alloc (.cells #[I 4000] 3)).alloc (.cells #[.slice none 0 0, .slice none 0 0] 26)) (w.heap.size + 1)) := by
    have := heap_alloc_new (w.alloc (.cells #[I 4000] 3)) (.cells #[.slice none 0 0, .slice none 0 0] 26)
    rw [World.size_alloc] at this
    exact this
  have HLS := Lib.hid hls
  have hmk := fun W => run_makeH nh (by omega) W
  clear hls hS h hP hO hes hpn hDL hal hWE hz0' hwf
  go_enter Try.func14, Try.ntmps14
  go_wp2_with fail
  refine HLS.out.mono ?_
  rintro e w1 ⟨rfl, hjl, hb1⟩
  have HB01 : Hid (Below w.heap.size w w1) := HA0.out.trans (hb1.mono (by omega))
  have HMO1 : Hid (IBox w1 w.heap.size 4000) := (hb1.block _ (by omega)).trans HMO.out
  have HTB1 : Hid (TBk w1 (w.heap.size + 1)) := (hb1.block _ (by omega)).trans HTB.out
  have HJL := Lib.hid hjl
  have hsz1 := hb1.size
  have hsz1' : w.heap.size + 1 + 1 ≤ w1.heap.size := by simpa using hsz1
  clear hjl hb1 hsz1
  obtain ⟨B, hB⟩ : ∃ B, w1.heap.size = B := ⟨_, rfl⟩
  have HBB := Lib.hid hB
  have hjh0 := made_jh w1 nh
  rw [hB] at hjh0 hsz1'
  have HJH0 := Lib.hid hjh0
  have hmk1 := hmk w1
  rw [hB] at hmk1
  clear hB hmk hjh0
  go_wp2
  go_loopw [28] (fun iv wr => ∃ k : Nat, k ≤ nh ∧ iv = .int .i64 k ∧ JH wr B nh (hands0 al (w.heap.size + 1 + 1) es k) ∧ Below B w1 wr) (fun iv _ => nh - (intOf iv).toNat)
  case atStart => exact ⟨0, Nat.zero_le _, rfl, HJH0.out.congr fun v _ i _ => (by unfold hands0; rw [if_neg (by omega)]), (Below.refl _ _).alloc (by rw [HBB.out]; exact Nat.le_refl _) _⟩
  case round =>
    obtain ⟨k, hk, rfl, hjh, hbl⟩ := hrel
    have HJH := Lib.hid hjh
    have HBL := Lib.hid hbl
    by_cases hlt : k < nh
    · obtain ⟨pb, poff, rfl, hpb, hpc⟩ := HP.out.at_ (by omega)
      have hkl : k < es.length := by rw [HP.out.len]; exact hlt
      have he : es[k]?.getD sl0 = es[k] := by rw [List.getElem?_eq_getElem hkl]; rfl
      have hc1 : wr.cell? ⟨pb, poff + k, none⟩ = some es[k].val := ((hbl.cell (by show pb < B; omega)).trans ((HB01.out.cell (by exact hpb)))).trans (hpc k hlt)
      obtain ⟨sA, sn, sc, hsv⟩ : ∃ sA sn sc, es[k].val = .slice sA sn sc := ⟨_, _, _, rfl⟩
      rw [hsv] at hc1
      have HSV : Hid ((es[k]?.getD sl0).val = .slice sA sn sc) := by rw [he]; exact hsv
      have cc : ∀ i, i < 9 → wr.cell? ⟨B, k * 9 + i, none⟩ = some (hz0 i) := fun i hi => by have := hjh.cell hlt hi; unfold hands0 at this; rw [if_neg (by omega)] at this; exact this
      have c0 : wr.cell? ⟨B, k * 9, none⟩ = some (I 0) := cc 0 (by omega)
      have c1 := cc 1 (by omega)
      have c2 := cc 2 (by omega)
      have c3 := cc 3 (by omega)
      have c4 := cc 4 (by omega)
      have c5 := cc 5 (by omega)
      have c6 := cc 6 (by omega)
      have c7 := cc 7 (by omega)
      have c8 := cc 8 (by omega)
      have ff := hjh.froz
      have f0 := ff (k * 9)
      have f1 := ff (k * 9 + 1)
      have f2 := ff (k * 9 + 2)
      have f3 := ff (k * 9 + 3)
      have f4 := ff (k * 9 + 4)
      have f5 := ff (k * 9 + 5)
      have f6 := ff (k * 9 + 6)
      have f7 := ff (k * 9 + 7)
      have f8 := ff (k * 9 + 8)
      clear cc ff hjh hbl hpc he hsv
      go_wp2
      go_roundw
      case rel => exact ⟨k + 1, by omega, by go_num, HJH.out.fill hlt HSV.out rfl HWF.out rfl, ((((((((HBL.out.setCell (p := ⟨B, _, none⟩) (Nat.le_refl _) _).setCell (p := ⟨B, _, none⟩) (Nat.le_refl _) _).setCell (p := ⟨B, _, none⟩) (Nat.le_refl _) _).setCell (p := ⟨B, _, none⟩) (Nat.le_refl _) _).setCell (p := ⟨B, _, none⟩) (Nat.le_refl _) _).setCell (p := ⟨B, _, none⟩) (Nat.le_refl _) _).setCell (p := ⟨B, _, none⟩) (Nat.le_refl _) _).setCell (p := ⟨B, _, none⟩) (Nat.le_refl _) _).setCell (p := ⟨B, _, none⟩) (Nat.le_refl _) _⟩
      case measure => simp [intOf]; omega
    · obtain rfl : nh = k := by omega
      have hBlt := hjh.lt
      have HJH2 : Hid (JRT al B nh (prog0 es) (w.heap.size + 1 + 1) wr.heap.size w.heap.size (w.heap.size + 1) (Wd.begin_ l) w (wr.alloc (.cells #[I 0] 3))) := by
        have hbw : Below w.heap.size w wr := HB01.out.trans (hbl.mono (by omega))
        have hbw' : Below B w1 (wr.alloc (.cells #[I 0] 3)) := hbl.alloc (by omega) _
        have hlt1 : ∀ g, g < B → (wr.alloc (.cells #[I 0] 3)).heap[g]? = w1.heap[g]? := fun g hg => hbw'.block g hg
        have hjl' : JL (wr.alloc (.cells #[I 0] 3)) w.heap.size (fun i => w.heap.size + 1 + 1 + i) (st0 l) (fun _ => false) := (HJL.out.mono (by omega)).keep fun i hi => hlt1 _ (by have := HJL.out.lt hi; rw [HBB.out] at this; exact this)
        have hjs : JS w.heap.size B nh (fun i => w.heap.size + 1 + 1 + i) (st0 l) (fun _ => false) (hands0 al (w.heap.size + 1 + 1) es nh) (wr.alloc (.cells #[I 0] 3)) := ⟨hjl', hjh.keep (Below.heap_alloc _ _ _ hBlt), by omega⟩
        have hbw2 : Below w.heap.size w (wr.alloc (.cells #[I 0] 3)) := hbw.alloc (by omega) _
        refine ⟨⟨⟨_, _, gs_begin hjs HP.out.len fun s hs => ⟨PS.below (HP.out.each s hs) hbw2, HES.out s hs, fun h0 ad ha => ?_⟩, rfl⟩, ?_, ?_, by omega, by omega, by show 0 ≤ 4000; omega, ?_⟩, hbw2⟩
        · obtain ⟨b, off, e1, e2, _⟩ := (HP.out.each s hs).rd.2 h0
          rw [ha] at e1
          cases e1
          exact e2
        · exact heap_alloc_new wr _
        · exact (hlt1 _ (by omega)).trans HMO1.out
        · exact (hlt1 _ (by omega)).trans HTB1.out
      clear hjh hbl hBlt
      go_wp2
      obtain ⟨wo, hwo⟩ : ∃ wo, wo = wr := ⟨_, rfl⟩
      subst hwo
      go_loopw [45] (fun iv wr => ∃ k : Nat, k ≤ on ∧ iv = .int .i64 k ∧ JRT al B nh (prog0 es) (w.heap.size + 1 + 1) wo.heap.size w.heap.size (w.heap.size + 1) ((Wd.begin_ l).runs (alg al) (dds (prog0 es)) (fun v => (prog0 es v).length) (ordN nh (ord.take k))) w wr) (fun iv _ => on - (intOf iv).toNat)
      case atStart => exact ⟨0, Nat.zero_le _, rfl, HJH2.out⟩
      case round =>
        obtain ⟨k, hk, rfl, hjr⟩ := hrel
        have HJR := Lib.hid hjr
        have hinv := HS.out.runs (ordN nh (ord.take k)) HS.out.i0 ordN_lt
        have hnow : ((Wd.begin_ l).runs (alg al) (dds (prog0 es)) (fun v => (prog0 es v).length) (ordN nh (ord.take k))).now ≤ k := by
          have h1 := (runs_now (A := alg al) (D := dds (prog0 es)) (len := fun v => (prog0 es v).length) (ordN nh (ord.take k)) (Wd.begin_ l)).2
          have h2 := ordN_len (nh := nh) (ord := ord.take k)
          have h3 : (ord.take k).length ≤ k := List.length_take_le _ _
          have h4 : (Wd.begin_ l).now = 0 := rfl
          omega
        obtain ⟨W, hW⟩ : ∃ W, (Wd.begin_ l).runs (alg al) (dds (prog0 es)) (fun v => (prog0 es v).length) (ordN nh (ord.take k)) = W := ⟨_, rfl⟩
        have HW := Lib.hid hW
        rw [hW] at HJR hinv hnow
        have HOK := Lib.hid (HS.out.ok hinv)
        have HNOW := Lib.hid hnow
        clear hjr hinv hW hnow
        by_cases hlt : k < on
        · obtain ⟨b, off, rfl, hb, hc⟩ := HO.out.at_ (by omega)
          have hkl : k < ord.length := by rw [HO.out.len]; exact hlt
          have hck : wr.cell? ⟨b, off + k, none⟩ = some (I ord[k]) := (HJR.out.bl.cell (by exact hb)).trans (hc k hlt)
          obtain ⟨x, hx⟩ : ∃ x, ord[k] = x := ⟨_, rfl⟩
          rw [hx] at hck
          by_cases hin : 0 ≤ x ∧ x < (nh : Int)
          · obtain ⟨v, rfl⟩ : ∃ v : Nat, x = v := ⟨x.toNat, by omega⟩
            have hv : v < nh := by omega
            have HN := Lib.hid (ordN_yes hkl hx hv)
            have HG := Lib.hid (give_any HJR.out.rs HOK.out HAL.out hv rfl)
            have hv0 : 0 ≤ (v : Int) := by omega
            have hv1 : (v : Int) < (nh : Int) := hin.2
            clear hc hx hin
            go_wp2_with fail
            refine HG.out.mono ?_
            rintro e w2 ⟨rfl, hj2, hb2⟩
            have hj3 : JRT al B nh (prog0 es) (w.heap.size + 1 + 1) wo.heap.size w.heap.size (w.heap.size + 1) ((Wd.begin_ l).runs (alg al) (dds (prog0 es)) (fun v => (prog0 es v).length) (ordN nh (ord.take (k + 1)))) w w2 := by
              rw [HN.out, runs_snoc, HW.out, ← may_go1 v (by have := HNOW.out; omega)]
              exact ⟨hj2, HJR.out.bl.trans hb2⟩
            have HJ3 := Lib.hid hj3
            clear hj2 hb2 hj3
            go_wp2
            go_roundw
            case rel => exact ⟨k + 1, by omega, by go_num, HJ3.out⟩
            case measure => simp [intOf]; omega
          · have HN := Lib.hid (ordN_no (nh := nh) hkl (by rw [hx]; exact hin))
            have hj3 : JRT al B nh (prog0 es) (w.heap.size + 1 + 1) wo.heap.size w.heap.size (w.heap.size + 1) ((Wd.begin_ l).runs (alg al) (dds (prog0 es)) (fun v => (prog0 es v).length) (ordN nh (ord.take (k + 1)))) w wr := by
              rw [HN.out, HW.out]
              exact HJR.out
            have HJ3 := Lib.hid hj3
            clear hc hx hj3
            by_cases hx0 : 0 ≤ x
            · have hx1 : ¬ x < (nh : Int) := fun e => hin ⟨hx0, e⟩
              clear hin
              go_wp2
              go_roundw
              case rel => exact ⟨k + 1, by omega, by go_num, HJ3.out⟩
              case measure => simp [intOf]; omega
            · clear hin
              go_wp2
              go_roundw
              case rel => exact ⟨k + 1, by omega, by go_num, HJ3.out⟩
              case measure => simp [intOf]; omega
        · obtain rfl : on = k := by omega
          have hfull : ord.take on = ord := List.take_of_length_le (by rw [HO.out.len]; exact Nat.le_refl _)
          rw [hfull] at HW
          obtain ⟨wp, hwp⟩ : ∃ wp, wp = wr := ⟨_, rfl⟩
          subst hwp
          have HINV := Lib.hid (HS.out.runs (ordN nh ord) HS.out.i0 ordN_lt)
          rw [HW.out] at HINV
          clear hfull
          go_wp2
          go_loopw [19] (fun ag wr => ∃ (b : Bool) (k : Nat), ag = .bool b ∧ k ≤ 875 ∧ JRT al B nh (prog0 es) (w.heap.size + 1 + 1) wo.heap.size w.heap.size (w.heap.size + 1) (W.rounds (alg al) (dds (prog0 es)) (fun v => (prog0 es v).length) nh k) w wr ∧ (b = false → ∀ v, v < nh → ¬ (W.rounds (alg al) (dds (prog0 es)) (fun v => (prog0 es v).length) nh k).ix v < (prog0 es v).length)) (fun ag wr => match ag with | .bool true => 4001 - nowOf wr wo.heap.size | _ => 0)
          case atStart => exact ⟨true, 0, rfl, Nat.zero_le _, HJR.out, fun h => by cases h⟩
          case round =>
            obtain ⟨b, k, rfl, hk, hjr, hover⟩ := hrel
            have HJK := Lib.hid hjr
            have HOVER := Lib.hid hover
            have hinvk := HS.out.rounds HINV.out k
            have hnowk := HS.out.nows k hk
            rw [HW.out] at hnowk
            have hfin := HS.out.fin
            rw [HW.out] at hfin
            have HSTOP : Hid (∀ j, j ≤ 875 → (∀ v, v < nh → ¬ (W.rounds (alg al) (dds (prog0 es)) (fun v => (prog0 es v).length) nh j).ix v < (prog0 es v).length) → W.rounds (alg al) (dds (prog0 es)) (fun v => (prog0 es v).length) nh j = WE) := fun j hj h => by
              rw [← HWE.out]
              unfold Wend
              rw [HW.out]
              exact (rounds_stop hj h).symm
            have HSUCC : Hid (W.rounds (alg al) (dds (prog0 es)) (fun v => (prog0 es v).length) nh (k + 1) = (W.rounds (alg al) (dds (prog0 es)) (fun v => (prog0 es v).length) nh k).runs (alg al) (dds (prog0 es)) (fun v => (prog0 es v).length) (List.range nh)) := rfl
            obtain ⟨Wk, hWk⟩ : ∃ Wk, W.rounds (alg al) (dds (prog0 es)) (fun v => (prog0 es v).length) nh k = Wk := ⟨_, rfl⟩
            have HWK := Lib.hid hWk
            have HFIN : Hid (k = 875 → ∀ v, v < nh → ¬ Wk.ix v < (prog0 es v).length) := fun e v hv => by subst e; rw [← hWk]; exact hfin v hv
            rw [hWk] at HJK HOVER hinvk hnowk HSUCC
            have HINVK := Lib.hid hinvk
            have HNOWK := Lib.hid hnowk
            clear hjr hover hinvk hnowk hfin hWk
            cases b with
            | false =>
              have hover := HOVER.out rfl
              have hwe : Wk = WE := by rw [← HWK.out]; exact HSTOP.out k hk (by rw [HWK.out]; exact hover)
              subst hwe
              obtain ⟨ad, hs, hgs, had⟩ := HJK.out.rs.gs
              have hLF := HS.out.lf HINVK.out
              have HT := told_any hgs hLF.h0 hLF.h0t hLF.htl hLF.hnl hLF.hk hLF.hk2 hLF.hup hLF.hkb (by rw [← HWE.out]; exact HPN.out) hm hnh (by rw [← HWE.out]; exact HDL.out) (some ⟨B, 0, none⟩) nh (fun _ => rfl)
              rw [had] at HT
              have HT := Lib.hid HT
              have hsz := HJK.out.bl.size
              have htb1 := HJK.out.rs.tk
              clear hover hgs had hLF
              go_wp2_with fail
              refine HT.out.mono ?_
              rintro e w2 ⟨dv, lv, rfl, hd2, hl2, hb2⟩
              have ht2 : TBk w2 (w.heap.size + 1) := (hb2.block _ (jblk htb1)).trans htb1
              have HD2 := Lib.hid hd2
              have HL2 := Lib.hid hl2
              have HB2 := Lib.hid hb2
              have HT2 := Lib.hid ht2
              have t0 : w2.cell? ⟨w.heap.size + 1, 0, none⟩ = some (.slice none 0 0) := by rw [jcell ht2]; rfl
              have t1 : w2.cell? ⟨w.heap.size + 1, 1, none⟩ = some (.slice none 0 0) := by rw [jcell ht2]; rfl
              have f0 := jfroz (i := 0) ht2
              have f1 := jfroz (i := 1) ht2
              clear hd2 hl2 hb2 ht2
              obtain ⟨dA, dc, rfl, -⟩ := HD2.out.is_
              obtain ⟨lA, lc, rfl, -, -⟩ := HL2.out.is_
              obtain ⟨D, hD⟩ : ∃ D, DLs Wk nh = D := ⟨_, rfl⟩
              obtain ⟨L, hL⟩ : ∃ L, lft Wk.s m (Wk.s.nx 0) = L := ⟨_, rfl⟩
              rw [hD] at HD2
              rw [hL] at HL2
              have HDD := Lib.hid hD
              have HLL := Lib.hid hL
              have hdl : (DLs Wk nh).length = D.length := by rw [hD]
              have hll : (lft Wk.s m (Wk.s.nx 0)).length = L.length := by rw [hL]
              clear hD hL
              obtain ⟨dn, hdn⟩ : ∃ dn, D.length = dn := ⟨_, rfl⟩
              obtain ⟨ln, hln⟩ : ∃ ln, L.length = ln := ⟨_, rfl⟩
              have HDN := Lib.hid hdn
              have HLN := Lib.hid hln
              rw [hdn] at hdl
              rw [hln] at hll
              try rw [hdl]
              try rw [hll]
              try rw [hdn]
              try rw [hln]
              clear hdn hln htb1 hdl hll
              go_wp2
              have hfin := jset_at (i := 1) (v := .slice lA ln lc) (jset_at (i := 0) (v := .slice dA dn dc) HT2.out)
              have r0 : ((w2.setCell ⟨w.heap.size + 1, 0, none⟩ (.slice dA dn dc)).setCell ⟨w.heap.size + 1, 1, none⟩ (.slice lA ln lc)).cell? ⟨w.heap.size + 1, 0, none⟩ = some (.slice dA dn dc) := by rw [jcell hfin]; rfl
              have r1 : ((w2.setCell ⟨w.heap.size + 1, 0, none⟩ (.slice dA dn dc)).setCell ⟨w.heap.size + 1, 1, none⟩ (.slice lA ln lc)).cell? ⟨w.heap.size + 1, 1, none⟩ = some (.slice lA ln lc) := by rw [jcell hfin]; rfl
              clear hfin
              refine bodyPost_ret (v := .agg #[.slice dA dn dc, .slice lA ln lc]) (by simp [results, Try.results14, go_sem, r0, r1]) rfl ?_
              have hlt1 : w.heap.size + 1 < wr.heap.size := jblk HJK.out.rs.tk
              have hD2 : OwnD w2 w.heap.size (.slice dA dn dc) D := by
                have := own_mono1 HD2.out hsz
                unfold OwnD
                rw [HDN.out] at this ⊢
                exact this
              rw [HDD.out, HLL.out]
              refine ⟨_, _, rfl, ?_, ?_, ((HJK.out.bl.trans (HB2.out.mono hsz)).setCell (p := ⟨w.heap.size + 1, 0, none⟩) (by show w.heap.size ≤ w.heap.size + 1; omega) _).setCell (p := ⟨w.heap.size + 1, 1, none⟩) (by show w.heap.size ≤ w.heap.size + 1; omega) _⟩
              · refine hD2.keep fun g hg => ?_
                have hge := own_ge1 HD2.out g (by rw [HDN.out]; exact hg)
                have hne : g ≠ w.heap.size + 1 := by omega
                rw [Below.heap_setCell _ _ _ _ hne, Below.heap_setCell _ _ _ _ hne]
              · have hL2 : OwnI w2 wr.heap.size (.slice lA ln lc) L := by
                  have := HL2.out
                  rw [HLN.out] at this
                  exact this
                refine ⟨hL2.1, ?_⟩
                rcases hL2.2 with h0 | ⟨g, cap, cur, h1, h2, h3, h4⟩
                · exact .inl h0
                · have hne : g ≠ w.heap.size + 1 := by omega
                  exact .inr ⟨g, cap, cur, h1, by omega, by rw [Below.heap_setCell _ _ _ _ hne, Below.heap_setCell _ _ _ _ hne]; exact h3, h4⟩
            | true =>
              obtain ⟨wq, hwq⟩ : ∃ wq, wq = wr := ⟨_, rfl⟩
              subst hwq
              go_wp2
              go_loopw [19, 66] (fun ag iv wr => ∃ (b : Bool) (i : Nat), i ≤ nh ∧ ag = .bool b ∧ iv = .int .i64 i ∧ JRT al B nh (prog0 es) (w.heap.size + 1 + 1) wo.heap.size w.heap.size (w.heap.size + 1) (Wk.runs (alg al) (dds (prog0 es)) (fun v => (prog0 es v).length) (List.range i)) w wr ∧ (b = false → ∀ v, v < i → ¬ Wk.ix v < (prog0 es v).length) ∧ (b = true → k < 875 ∧ Wk.now < (Wk.runs (alg al) (dds (prog0 es)) (fun v => (prog0 es v).length) (List.range i)).now)) (fun _ iv _ => nh - (intOf iv).toNat)
              case atStart => exact ⟨false, 0, Nat.zero_le _, rfl, rfl, HJK.out, fun _ v hv => absurd hv (by omega), fun h => by cases h⟩
              case round =>
                obtain ⟨b, i, hi, rfl, rfl, hjr, hbf, hbt⟩ := hrel
                have HJI := Lib.hid hjr
                have HBF := Lib.hid hbf
                have HBT := Lib.hid hbt
                clear hjr hbf hbt
                by_cases hlt : i < nh
                · have hinvi := HS.out.runs (List.range i) HINVK.out (fun v hv => by have := List.mem_range.mp hv; omega)
                  have hnowi := runs_now (A := alg al) (D := dds (prog0 es)) (len := fun v => (prog0 es v).length) (List.range i) Wk
                  rw [List.length_range] at hnowi
                  have HSN : Hid (Wk.runs (alg al) (dds (prog0 es)) (fun v => (prog0 es v).length) (List.range (i + 1)) = (Wk.runs (alg al) (dds (prog0 es)) (fun v => (prog0 es v).length) (List.range i)).go1 (alg al) (dds (prog0 es)) (fun v => (prog0 es v).length) i) := by
                    rw [List.range_succ]
                    exact runs_snoc _ _ _
                  have HID : Hid ((∀ v, v < i → ¬ Wk.ix v < (prog0 es v).length) → Wk.runs (alg al) (dds (prog0 es)) (fun v => (prog0 es v).length) (List.range i) = Wk) := fun h => runs_idle _ fun v hv => h v (List.mem_range.mp hv)
                  obtain ⟨Wi, hWi⟩ : ∃ Wi, Wk.runs (alg al) (dds (prog0 es)) (fun v => (prog0 es v).length) (List.range i) = Wi := ⟨_, rfl⟩
                  have HWI := Lib.hid hWi
                  rw [hWi] at HJI HBT hinvi hnowi HSN HID
                  have HOKI := Lib.hid (HS.out.ok hinvi)
                  have HNI := Lib.hid hnowi
                  clear hinvi hnowi hWi
                  by_cases hix : Wi.ix i < (prog0 es i).length
                  · have hk8 : k < 875 := by
                      apply Classical.byContradiction
                      intro hn
                      have hall := HFIN.out (by omega)
                      have := HID.out fun v hv => hall v (by omega)
                      rw [this] at hix
                      exact hall i hlt hix
                    have hn4 : Wi.now < 4000 := by have := HNI.out; have := HNOWK.out; omega
                    have HG := Lib.hid (give_any HJI.out.rs HOKI.out HAL.out hlt (b := true) (by simp [hn4, hix]))
                    have hgo : Wi.go1 (alg al) (dds (prog0 es)) (fun v => (prog0 es v).length) i = Wi.go (alg al) (dds (prog0 es)) i := by unfold Wd.go1; rw [if_pos hix]
                    have HNEW : Hid (Wk.now < (Wi.go1 (alg al) (dds (prog0 es)) (fun v => (prog0 es v).length) i).now) := by
                      show Wk.now < _
                      rw [hgo]
                      show Wk.now < Wi.now + 1
                      have := HNI.out
                      omega
                    have HMG := Lib.hid (may_go1 (al := al) (P := prog0 es) (W := Wi) i hn4)
                    have hi0 : 0 ≤ (i : Int) := by omega
                    have hi1 : (i : Int) < (nh : Int) := by omega
                    clear hix hgo hn4
                    go_wp2_with fail
                    refine HG.out.mono ?_
                    rintro e w2 ⟨rfl, hj2, hb2⟩
                    rw [HMG.out, ← HSN.out] at hj2
                    have HJ3 : Hid (JRT al B nh (prog0 es) (w.heap.size + 1 + 1) wo.heap.size w.heap.size (w.heap.size + 1) (Wk.runs (alg al) (dds (prog0 es)) (fun v => (prog0 es v).length) (List.range (i + 1))) w w2) := ⟨hj2, HJI.out.bl.trans hb2⟩
                    clear hj2 hb2
                    go_wp2
                    go_roundw
                    case rel => exact ⟨true, i + 1, by omega, rfl, by go_num, HJ3.out, fun h => (by cases h), fun _ => ⟨hk8, by rw [HSN.out]; exact HNEW.out⟩⟩
                    case measure => simp [intOf]; omega
                  · have HG := Lib.hid (give_any HJI.out.rs HOKI.out HAL.out hlt (b := false) (by simp [hix]))
                    have HGO : Hid (Wi.go1 (alg al) (dds (prog0 es)) (fun v => (prog0 es v).length) i = Wi) := by show _ = _; unfold Wd.go1; rw [if_neg hix]
                    have HMG : Hid (Wi.may (alg al) (prog0 es) i = Wi) := by show _ = _; unfold Wd.may; rw [if_neg (fun e => hix e.2)]
                    have hi0 : 0 ≤ (i : Int) := by omega
                    have hi1 : (i : Int) < (nh : Int) := by omega
                    have HIX := Lib.hid hix
                    clear hix
                    go_wp2_with fail
                    refine HG.out.mono ?_
                    rintro e w2 ⟨rfl, hj2, hb2⟩
                    have hj3 : JRS al w.heap.size B nh (prog0 es) (w.heap.size + 1 + 1) wo.heap.size w.heap.size (w.heap.size + 1) (Wk.runs (alg al) (dds (prog0 es)) (fun v => (prog0 es v).length) (List.range (i + 1))) w2 := by
                      rw [HSN.out, HGO.out]
                      rw [HMG.out] at hj2
                      exact hj2
                    have HJ3 : Hid (JRT al B nh (prog0 es) (w.heap.size + 1 + 1) wo.heap.size w.heap.size (w.heap.size + 1) (Wk.runs (alg al) (dds (prog0 es)) (fun v => (prog0 es v).length) (List.range (i + 1))) w w2) := ⟨hj3, HJI.out.bl.trans hb2⟩
                    clear hj2 hb2 hj3
                    go_wp2
                    go_roundw
                    case rel =>
                      refine ⟨b, i + 1, by omega, rfl, by go_num, HJ3.out, fun hb v hv => ?_, fun hb => ⟨(HBT.out hb).1, by rw [HSN.out, HGO.out]; exact (HBT.out hb).2⟩⟩
                      have hold := HBF.out hb
                      by_cases e : v = i
                      · subst e
                        have := HIX.out
                        rw [HID.out hold] at this
                        exact this
                      · exact hold v (by omega)
                    case measure => simp [intOf]; omega
                · obtain rfl : nh = i := by omega
                  have hnq : nowOf wq wo.heap.size = Wk.now := by rw [HJK.out.rs.st.now]; rfl
                  have hnr := HJI.out.rs.st.now
                  rw [Int.toNat_natCast] at hnr
                  have hl4 := HJI.out.rs.le
                  have HNQ := Lib.hid hnq
                  have HNR := Lib.hid hnr
                  clear hnq hnr
                  cases b with
                  | true =>
                    obtain ⟨hk8, hnlt⟩ := HBT.out rfl
                    go_wp2
                    go_roundw
                    case rel => exact ⟨true, k + 1, rfl, by omega, by rw [HSUCC.out]; exact HJI.out, fun h => by cases h⟩
                    case measure => simp [HNQ.out, HNR.out]; omega
                  | false =>
                    have hall := HBF.out rfl
                    have HE : Hid (Wk.runs (alg al) (dds (prog0 es)) (fun v => (prog0 es v).length) (List.range nh) = Wk) := runs_idle _ fun v hv => hall v (List.mem_range.mp hv)
                    have HALL := Lib.hid hall
                    clear hall
                    go_wp2
                    go_roundw
                    case rel => exact ⟨false, k, rfl, hk, by rw [HWK.out]; have := HJI.out; rw [HE.out] at this; exact this, fun _ => by rw [HWK.out]; exact HALL.out⟩
                    case measure =>
                      have := HJK.out.rs.le
                      simp [HNQ.out]; omega

end Go.Proofs.Ytfmdpmebllepeaa
