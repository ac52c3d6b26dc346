/-
  Joined texts: YtpnjnedfcdppaaaGreatDoorEqAns, YtpnjnedfcdppaaaGreatDoorAns, YtpnjnedfcdppaaaGreatDoorRun, YtpnjnedfcdppaaaGreatDoorOpRows, YtpnjnedfcdppaaaGreatDoorMapK, YtpnjnedfcdppaaaGreatDoorDOp.
-/
import Derived.Test.YtpnjnedfcdppaaaGreatDoorEqAll
import Derived.Laws.MakeOwn
import Derived.Laws.CopyOwn
import Derived.Test.YtpnjnedfcdppaaaGreatDoorDoLookAll
import Derived.Test.YtpnjnedfcdppaaaGreatDoorIntsAll
import Derived.Deep.AppendLies
import Derived.Test.YtpnjnedfcdppaaaGreatDoorChecked
/-
  slices.Equal at Ans.
-/
namespace Go.Proofs.YtpnjnedfcdppaaaGreatDoor
open Go.RowKit

theorem An.ext' {a b : An} (h0 : a.e = b.e) (h1 : a.k = b.k) (h2 : a.v = b.v) (h3 : a.b = b.b) : a = b := by cases a; cases b; simp_all
instance : DecidableEq An := fun a b => decidable_of_iff (a.e = b.e ∧ a.k = b.k ∧ a.v = b.v ∧ a.b = b.b) ⟨fun h => An.ext' h.1 h.2.1 h.2.2.1 h.2.2.2, fun h => by subst h; simp⟩

def af (l : List An) (i j : Nat) : Value := if j = 0 then I (l[i]?.getD an0).e else if j = 1 then I (l[i]?.getD an0).k else if j = 2 then I (l[i]?.getD an0).v else .bool (l[i]?.getD an0).b
/-- a slice of answers -/
structure AS (w : World) (A : Option Addr) (n c : Nat) (l : List An) : Prop where
  len : l.length = n
  rd : Rd w w.heap.size 4 A n c (af l)
theorem AS.below {w w' : World} {n c : Nat} {A : Option Addr} {l : List An} (h : AS w A n c l) (hb : Below w.heap.size w w') : AS w' A n c l := ⟨h.len, h.rd.below hb⟩
theorem AS.at_ {w : World} {n c : Nat} {A : Option Addr} {l : List An} (h : AS w A n c l) (hn : 0 < n) :
    ∃ b off, A = some ⟨b, off, none⟩ ∧ b < w.heap.size ∧ ∀ i (hi : i < n), w.cell? ⟨b, off + i * 4, none⟩ = some (I (l[i]'(by rw [h.len]; exact hi)).e) ∧ w.cell? ⟨b, off + (i * 4 + 1), none⟩ = some (I (l[i]'(by rw [h.len]; exact hi)).k) ∧
      w.cell? ⟨b, off + (i * 4 + 2), none⟩ = some (I (l[i]'(by rw [h.len]; exact hi)).v) ∧ w.cell? ⟨b, off + (i * 4 + 3), none⟩ = some (.bool (l[i]'(by rw [h.len]; exact hi)).b) := by
  obtain ⟨b, off, e, hb, hc⟩ := h.rd.2 hn
  refine ⟨b, off, e, hb, fun i hi => ?_⟩
  have hl : i < l.length := by rw [h.len]; exact hi
  have h0 := hc i hi 0 (by omega)
  have h1 := hc i hi 1 (by omega)
  have h2 := hc i hi 2 (by omega)
  have h3 := hc i hi 3 (by omega)
  simp [af, List.getElem?_eq_getElem hl] at h0 h1 h2 h3
  exact ⟨h0, h1, h2, h3⟩

set_option maxHeartbeats 1000000 in
theorem eqAns_any (A A' : Option Addr) (n n' c c' : Nat) (l m : List An) (w : World) (h : AS w A n c l) (h' : AS w A' n' c' m) (hn : n ≤ 1000000) (hn' : n' ≤ 1000000) :
    Calls Tryz.prog 25 #[.slice A n c, .slice A' n' c'] w fun e w' => e = .returned (.bool (decide (l = m))) ∧ Below w.heap.size w w' := by
  have H := Lib.hid h
  have H' := Lib.hid h'
  clear h h'
  by_cases hnn : n = n'
  · subst hnn
    have hne : ((n : Int) != (n : Int)) = false := by simp
    go_enter Tryz.func25, Tryz.ntmps25
    go_wp2
    go_loopw [13] (fun i wr => ∃ k : Nat, k ≤ n ∧ i = .int .i64 k ∧ sameTo l m k ∧ Below w.heap.size w wr) (fun i _ => n - (intOf i).toNat)
    case atStart => exact ⟨0, Nat.zero_le _, rfl, fun i hi => absurd hi (by omega), Below.refl _ _⟩
    case round =>
      obtain ⟨k, hk, rfl, hsame, hnx⟩ := hrel
      have hsz := hnx.size
      by_cases hlt : k < n
      · obtain ⟨b, off, rfl, hb, hc⟩ := H.out.at_ (by omega)
        obtain ⟨b', off', rfl, hb', hc'⟩ := H'.out.at_ (by omega)
        have hkl : k < l.length := by have := H.out.len; omega
        have hkm : k < m.length := by have := H'.out.len; omega
        have hc0 : wr.cell? ⟨b, off + k * 4, none⟩ = some (I l[k].e) := (hnx.cell (by exact hb)).trans (hc k hlt).1
        have hc1 : wr.cell? ⟨b, off + k * 4 + 1, none⟩ = some (I l[k].k) := (hnx.cell (by exact hb)).trans (hc k hlt).2.1
        have hc2 : wr.cell? ⟨b, off + k * 4 + 2, none⟩ = some (I l[k].v) := (hnx.cell (by exact hb)).trans (hc k hlt).2.2.1
        have hc3 : wr.cell? ⟨b, off + k * 4 + 3, none⟩ = some (Value.bool l[k].b) := (hnx.cell (by exact hb)).trans (hc k hlt).2.2.2
        have hd0 : wr.cell? ⟨b', off' + k * 4, none⟩ = some (I m[k].e) := (hnx.cell (by exact hb')).trans (hc' k hlt).1
        have hd1 : wr.cell? ⟨b', off' + k * 4 + 1, none⟩ = some (I m[k].k) := (hnx.cell (by exact hb')).trans (hc' k hlt).2.1
        have hd2 : wr.cell? ⟨b', off' + k * 4 + 2, none⟩ = some (I m[k].v) := (hnx.cell (by exact hb')).trans (hc' k hlt).2.2.1
        have hd3 : wr.cell? ⟨b', off' + k * 4 + 3, none⟩ = some (Value.bool m[k].b) := (hnx.cell (by exact hb')).trans (hc' k hlt).2.2.2
        clear hc hc'
        by_cases heq : l[k] = m[k]
        · have HS : Hid (sameTo l m (k + 1)) := sameTo_succ hsame (by rw [List.getElem?_eq_getElem hkl, List.getElem?_eq_getElem hkm, heq])
          have hb0 : (l[k].e == m[k].e) = true := by simp [heq]
          have hb1 : (l[k].k == m[k].k) = true := by simp [heq]
          have hb2 : (l[k].v == m[k].v) = true := by simp [heq]
          have hb3 : (l[k].b == m[k].b) = true := by simp [heq]
          have HE := Lib.hid heq
          clear heq hsame
          go_wp2
          go_quiet (fail)
          go_wp2
          go_roundw
          case rel => exact ⟨k + 1, by omega, by go_num, HS.out, below_drewN hnx _⟩
          case measure => simp [intOf]; omega
        · have HF : Hid (decide (l = m) = false) := by
            refine decide_eq_false ?_
            intro e
            subst e
            exact heq rfl
          have hne2 : ¬ (l[k].e = m[k].e ∧ l[k].k = m[k].k ∧ l[k].v = m[k].v ∧ l[k].b = m[k].b) := fun h => heq (An.ext' h.1 h.2.1 h.2.2.1 h.2.2.2)
          clear heq hsame
          by_cases h0 : l[k].e = m[k].e
          case neg =>
            have hb0 : (l[k].e == m[k].e) = false := by simp [h0]
            clear hne2 h0
            go_wp2
            go_quiet (fail)
            go_wp2
            go_ret
            exact ⟨by rw [HF.out]; rfl, below_drewN hnx _⟩
          by_cases h1 : l[k].k = m[k].k
          case neg =>
            have hb0 : (l[k].e == m[k].e) = true := by simp [h0]
            have hb1 : (l[k].k == m[k].k) = false := by simp [h1]
            clear hne2 h0 h1
            go_wp2
            go_quiet (fail)
            go_wp2
            go_ret
            exact ⟨by rw [HF.out]; rfl, below_drewN hnx _⟩
          by_cases h2 : l[k].v = m[k].v
          case neg =>
            have hb0 : (l[k].e == m[k].e) = true := by simp [h0]
            have hb1 : (l[k].k == m[k].k) = true := by simp [h1]
            have hb2 : (l[k].v == m[k].v) = false := by simp [h2]
            clear hne2 h0 h1 h2
            go_wp2
            go_quiet (fail)
            go_wp2
            go_ret
            exact ⟨by rw [HF.out]; rfl, below_drewN hnx _⟩
          have hb0 : (l[k].e == m[k].e) = true := by simp [h0]
          have hb1 : (l[k].k == m[k].k) = true := by simp [h1]
          have hb2 : (l[k].v == m[k].v) = true := by simp [h2]
          have hb3 : (l[k].b == m[k].b) = false := by simpa using fun h3 => hne2 ⟨h0, h1, h2, h3⟩
          clear hne2 h0 h1 h2
          go_wp2
          go_quiet (fail)
          go_wp2
          go_ret
          exact ⟨by rw [HF.out]; rfl, below_drewN hnx _⟩
      · have HF : Hid (decide (l = m) = true) := decide_eq_true (eq_step H.out.len H'.out.len (by omega) hsame)
        clear hsame
        go_wp2
        go_ret
        exact ⟨by rw [HF.out]; rfl, hnx⟩
  · have HF : Hid (decide (l = m) = false) := by
      refine decide_eq_false ?_
      intro e
      subst e
      exact hnn (H.out.len.symm.trans H'.out.len)
    have hne : ((n : Int) != (n' : Int)) = true := by simp; omega
    clear hnn
    go_enter Tryz.func25, Tryz.ntmps25
    go_wp2
    go_ret
    exact ⟨by rw [HF.out]; rfl, Below.refl _ _⟩

end Go.Proofs.YtpnjnedfcdppaaaGreatDoor

/-
  ANSWERS IN A ROW OF THE CALL'S OWN; a slice of ops. Nothing of the program.
-/
namespace Go.Proofs.YtpnjnedfcdppaaaGreatDoor
open Go.RowKit

def flatA : List An → List Value
  | [] => []
  | a :: t => I a.e :: I a.k :: I a.v :: .bool a.b :: flatA t
theorem flatA_length (l : List An) : (flatA l).length = l.length * 4 := by induction l <;> simp [flatA, *]; omega
theorem flatA_append (l m : List An) : flatA (l ++ m) = flatA l ++ flatA m := by induction l <;> simp [flatA, *]
theorem flatA_at (l : List An) (i : Nat) (h : i < l.length) : (flatA l)[i * 4]? = some (I l[i].e) ∧ (flatA l)[i * 4 + 1]? = some (I l[i].k) ∧ (flatA l)[i * 4 + 2]? = some (I l[i].v) ∧ (flatA l)[i * 4 + 3]? = some (.bool l[i].b) := by
  induction l generalizing i with
  | nil => simp at h
  | cons p t ih => cases i with
    | zero => simp [flatA]
    | succ i =>
      rw [show (i + 1) * 4 = i * 4 + 1 + 1 + 1 + 1 by omega]
      have := ih i (by simpa using h)
      simpa [flatA] using this
theorem flatA_set (l : List An) (i : Nat) (a : An) (h : i < l.length) : ((((flatA l).set (i * 4) (I a.e)).set (i * 4 + 1) (I a.k)).set (i * 4 + 2) (I a.v)).set (i * 4 + 3) (.bool a.b) = flatA (l.set i a) := by
  induction l generalizing i with
  | nil => simp at h
  | cons p t ih => cases i with
    | zero => simp [flatA]
    | succ i =>
      rw [show (i + 1) * 4 + 3 = i * 4 + 3 + 1 + 1 + 1 + 1 by omega, show (i + 1) * 4 + 2 = i * 4 + 2 + 1 + 1 + 1 + 1 by omega, show (i + 1) * 4 + 1 = i * 4 + 1 + 1 + 1 + 1 + 1 by omega, show (i + 1) * 4 = i * 4 + 1 + 1 + 1 + 1 by omega]
      have := ih i (by simpa using h)
      simp [flatA, this]
theorem flatA_made (n : Nat) : madeCells #[I 0, I 0, I 0, .bool false] (n * 4) = (flatA (List.replicate n an0)).toArray := by
  apply Array.ext
  · simp [size_madeCells, flatA_length]
  · intro k h1 h2
    simp only [size_madeCells] at h1
    have hb : k / 4 < (List.replicate n an0).length := by simp; omega
    have hf := flatA_at (List.replicate n an0) (k / 4) hb
    simp only [List.getElem_replicate] at hf
    have h3 : k < (flatA (List.replicate n an0)).length := by simpa using h2
    have hk : (flatA (List.replicate n an0))[k]? = some ((madeCells #[I 0, I 0, I 0, .bool false] (n * 4))[k]'(by rw [size_madeCells]; exact h1)) := by
      have : k % 4 = 0 ∨ k % 4 = 1 ∨ k % 4 = 2 ∨ k % 4 = 3 := by omega
      rcases this with h | h | h | h
      · have e : k = k / 4 * 4 := by omega
        rw [show (flatA (List.replicate n an0))[k]? = (flatA (List.replicate n an0))[k / 4 * 4]? by rw [← e], hf.1]; simp [madeCells, h]
      · have e : k = k / 4 * 4 + 1 := by omega
        rw [show (flatA (List.replicate n an0))[k]? = (flatA (List.replicate n an0))[k / 4 * 4 + 1]? by rw [← e], hf.2.1]; simp [madeCells, h]
      · have e : k = k / 4 * 4 + 2 := by omega
        rw [show (flatA (List.replicate n an0))[k]? = (flatA (List.replicate n an0))[k / 4 * 4 + 2]? by rw [← e], hf.2.2.1]; simp [madeCells, h]
      · have e : k = k / 4 * 4 + 3 := by omega
        rw [show (flatA (List.replicate n an0))[k]? = (flatA (List.replicate n an0))[k / 4 * 4 + 3]? by rw [← e], hf.2.2.2]; simp [madeCells, h]
    rw [List.getElem?_eq_getElem h3] at hk
    have := Option.some.inj hk
    simpa using this.symm

/-- block g is just the answers L -/
def QB (w : World) (g t : Nat) (L : List An) : Prop := w.heap[g]? = some (.cells (flatA L).toArray t (0, 0))
theorem QB.lt {w : World} {g t : Nat} {L : List An} (h : QB w g t L) : g < w.heap.size := by
  rcases Nat.lt_or_ge g w.heap.size with hlt | hge
  · exact hlt
  · unfold QB at h; rw [Array.getElem?_eq_none hge] at h; cases h
theorem QB.cell {w : World} {g t : Nat} {L : List An} (h : QB w g t L) (i : Nat) : w.cell? ⟨g, i, none⟩ = (flatA L)[i]? := by
  unfold QB at h
  simp [World.cell?, h]
theorem QB.frozen {w : World} {g t : Nat} {L : List An} (h : QB w g t L) (i : Nat) : w.frozen? ⟨g, i, none⟩ = false := by
  unfold QB at h
  simp [World.frozen?, h]
theorem QB.as_ {w : World} {g t c : Nat} {L : List An} (h : QB w g t L) (hc : L.length ≤ c) : AS w (some ⟨g, 0, none⟩) L.length c L := by
  refine ⟨rfl, hc, fun _ => ⟨g, 0, rfl, h.lt, fun i hi j hj => ?_⟩⟩
  rw [h.cell]
  have := flatA_at L i hi
  have hl : L[i]?.getD an0 = L[i] := by simp [List.getElem?_eq_getElem hi]
  rcases (show j = 0 ∨ j = 1 ∨ j = 2 ∨ j = 3 by omega) with rfl | rfl | rfl | rfl
  · simpa [af, hl] using this.1
  · simpa [af, hl] using this.2.1
  · simpa [af, hl] using this.2.2.1
  · simpa [af, hl] using this.2.2.2
theorem QB.below {w w' : World} {g t B : Nat} {L : List An} (h : QB w g t L) (hb : Below B w w') (hg : g < B) : QB w' g t L := (hb.block g hg).trans h
theorem QB.new (w : World) (t : Nat) (L : List An) : QB (w.alloc (.cells (flatA L).toArray t)) w.heap.size t L := heap_alloc_new w _
theorem QB.alloc {w : World} {g t : Nat} {L : List An} (h : QB w g t L) (o : Obj) : QB (w.alloc o) g t L := (Below.heap_alloc w o g h.lt).trans h
theorem cells_set {w : World} {g t : Nat} {cs : List Value} (h : w.heap[g]? = some (.cells cs.toArray t (0, 0))) (i : Nat) (v : Value) : (w.setCell ⟨g, i, none⟩ v).heap[g]? = some (.cells (cs.set i v).toArray t (0, 0)) := by
  rw [setCell_eq_setRow w g i _ t (0, 0) v h, setRow_heap w g _ _ t (0, 0) h]
  simp
theorem QB.set {w : World} {g t : Nat} {L : List An} (h : QB w g t L) (i : Nat) (a : An) (hi : i < L.length) :
    QB ((((w.setCell ⟨g, i * 4, none⟩ (I a.e)).setCell ⟨g, i * 4 + 1, none⟩ (I a.k)).setCell ⟨g, i * 4 + 2, none⟩ (I a.v)).setCell ⟨g, i * 4 + 3, none⟩ (.bool a.b)) g t (L.set i a) := by
  unfold QB
  rw [← flatA_set L i a hi]
  exact cells_set (cells_set (cells_set (cells_set h _ _) _ _) _ _) _ _

theorem run_makeA {P : Program} (t e : TypeId) (ht : P.underlying t = some (.slice e)) (hi : (P.info? e).map (fun i => (i.zero, i.size, i.bytes)) = some (some (.agg #[I 0, I 0, I 0, .bool false]), 4, 32)) (n : Nat) (hn : n ≤ 1000000) (w : World) :
    (Instr.makeSlice t (.int .i64 (n : Int)) (.int .i64 (n : Int))).run P w = .ok (.slice (some ⟨w.heap.size, 0, none⟩) n n) (w.alloc (.cells (flatA (List.replicate n an0)).toArray e)) := by
  obtain ⟨i, h1, hz, hs, hb⟩ := info_parts hi
  have := run_make (P := P) w t e i _ ht h1 hz .i64 .i64 n n (by omega) (by omega) (by rw [hb]; omega) (by omega)
  rw [this, hs]
  simp only [Int.toNat_natCast, Value.cells]
  rw [flatA_made]

/-- ops -/
abbrev OP := Int × Int × Int
def of_ (l : List OP) (i j : Nat) : Value := I (if j = 0 then (l[i]?.getD (0, 0, 0)).1 else if j = 1 then (l[i]?.getD (0, 0, 0)).2.1 else (l[i]?.getD (0, 0, 0)).2.2)
structure OS (w : World) (A : Option Addr) (n c : Nat) (l : List OP) : Prop where
  len : l.length = n
  rd : Rd w w.heap.size 3 A n c (of_ l)
theorem OS.below {w w' : World} {n c : Nat} {A : Option Addr} {l : List OP} (h : OS w A n c l) (hb : Below w.heap.size w w') : OS w' A n c l := ⟨h.len, h.rd.below hb⟩
theorem OS.at_ {w : World} {n c : Nat} {A : Option Addr} {l : List OP} (h : OS w A n c l) (hn : 0 < n) :
    ∃ b off, A = some ⟨b, off, none⟩ ∧ b < w.heap.size ∧ ∀ i (hi : i < n), w.cell? ⟨b, off + i * 3, none⟩ = some (I (l[i]'(by rw [h.len]; exact hi)).1) ∧ w.cell? ⟨b, off + (i * 3 + 1), none⟩ = some (I (l[i]'(by rw [h.len]; exact hi)).2.1) ∧
      w.cell? ⟨b, off + (i * 3 + 2), none⟩ = some (I (l[i]'(by rw [h.len]; exact hi)).2.2) := by
  obtain ⟨b, off, e, hb, hc⟩ := h.rd.2 hn
  refine ⟨b, off, e, hb, fun i hi => ?_⟩
  have hl : i < l.length := by rw [h.len]; exact hi
  have h0 := hc i hi 0 (by omega)
  have h1 := hc i hi 1 (by omega)
  have h2 := hc i hi 2 (by omega)
  simp [of_, List.getElem?_eq_getElem hl] at h0 h1 h2
  exact ⟨h0, h1, h2⟩

end Go.Proofs.YtpnjnedfcdppaaaGreatDoor

/-
  Run.
-/
namespace Go.Proofs.YtpnjnedfcdppaaaGreatDoor
open Go.RowKit

theorem doL_len (l : PL) (kind key val : Int) : (doL l kind key val).length ≤ 200 := by
  unfold doL
  by_cases hc : chk l = 0
  · have h2 := chk_len hc
    rw [if_neg (by simpa using hc)]
    split
    · exact h2
    · split
      · unfold putL
        split
        · simpa using h2
        · split
          · exact h2
          · have := cnt_le l key
            simp
            omega
      · split
        · unfold cutL
          split
          · simp
            omega
          · exact h2
        · exact h2
  · rw [if_pos hc]; simp

def stepR (s : PL × List An) (o : OP) : PL × List An := (doL s.1 o.1 o.2.1 o.2.2, s.2 ++ [doA s.1 o.1 o.2.1])
def runR (ops : List OP) : PL × List An := ops.foldl stepR ([], [])
theorem runR_succ (ops : List OP) (k : Nat) (h : k < ops.length) : runR (ops.take (k + 1)) = stepR (runR (ops.take k)) ops[k] := by
  rw [List.take_succ_eq_append_getElem h, runR, List.foldl_append]
  rfl
theorem runR_len (ops : List OP) : (runR ops).2.length = ops.length := by
  have h : ∀ (s : PL × List An), (ops.foldl stepR s).2.length = s.2.length + ops.length := by
    induction ops with
    | nil => intro s; simp
    | cons o t ih => intro s; rw [List.foldl_cons, ih]; simp [stepR]; omega
  simpa [runR] using h ([], [])

theorem ans_info : (Tryz.prog.info? 51).map (fun i => (i.zero, i.size, i.bytes)) = some (some (.agg #[I 0, I 0, I 0, .bool false]), 4, 32) := by kernel_rfl

/-- what the answers' row holds behind k rounds -/
def ansTo (ops : List OP) (k : Nat) : List An := (runR (ops.take k)).2 ++ List.replicate (ops.length - k) an0
theorem ansTo_len (ops : List OP) (k : Nat) (h : k ≤ ops.length) : (ansTo ops k).length = ops.length := by
  simp [ansTo, runR_len]; omega
theorem ansTo_succ (ops : List OP) (k : Nat) (h : k < ops.length) : (ansTo ops k).set k (doA (runR (ops.take k)).1 ops[k].1 ops[k].2.1) = ansTo ops (k + 1) := by
  unfold ansTo
  have hl : (runR (ops.take k)).2.length = k := by simp [runR_len]; omega
  rw [List.set_append_right _ _ (by omega), hl, Nat.sub_self, show ops.length - k = ops.length - (k + 1) + 1 by omega, List.replicate_succ, List.set_cons_zero, runR_succ ops k h]
  simp [stepR]

/-- the map so far: a slice of the call's own, or none -/
def Own5 (B : Nat) (w : World) (l : PL) (v : Value) : Prop := ∃ A n c, v = .slice A n c ∧ PS w A n c l ∧ ∀ ad, A = some ad → B ≤ ad.block
def RetRun (l : PL) (a : List An) (er : Int) (w : World) (e : Ending) (w' : World) : Prop :=
  ∃ A n c A' n' c', e = .returned (.tuple #[.slice A n c, .slice A' n' c', I er]) ∧ PS w' A n c l ∧ AS w' A' n' c' a ∧ Below w.heap.size w w'

set_option maxRecDepth 100000 in
set_option maxHeartbeats 1000000 in
theorem Run_any (A : Option Addr) (n c : Nat) (ops : List OP) (w : World) (h : OS w A n c ops) (hn : n ≤ 300) :
    Calls Tryz.prog 19 #[.slice A n c] w (RetRun (runR ops).1 (runR ops).2 0 w) := by
  have hmk := fun W => run_makeA (P := Tryz.prog) 34 51 Tryz.underlying34 ans_info n (by omega) W
  have H := Lib.hid h
  have Hlen := Lib.hid h.len
  clear h
  have hb0 : Below w.heap.size w (w.alloc (.cells (flatA (List.replicate n an0)).toArray 51)) := (Below.refl _ _).alloc (Nat.le_refl _) _
  have hq0 : QB (w.alloc (.cells (flatA (List.replicate n an0)).toArray 51)) w.heap.size 51 (ansTo ops 0) := by
    have : ansTo ops 0 = List.replicate n an0 := by simp [ansTo, runR, Hlen.out]
    rw [this]
    exact QB.new _ _ _
  have HB0 := Lib.hid hb0
  have HQ0 := Lib.hid hq0
  clear hb0 hq0
  go_enter Tryz.func19, Tryz.ntmps19
  go_wp2
  go_loopw [5, 17] (fun v i wr => ∃ k : Nat, k ≤ n ∧ i = .int .i64 k ∧ Own5 (w.heap.size + 1) wr (runR (ops.take k)).1 v ∧ QB wr w.heap.size 51 (ansTo ops k) ∧ Below w.heap.size w wr) (fun _ i _ => n - (intOf i).toNat)
  case atStart => exact ⟨0, Nat.zero_le _, rfl, ⟨none, 0, 0, rfl, ⟨by simp [runR], Rd.none_⟩, fun _ h => by cases h⟩, HQ0.out, HB0.out⟩
  case round =>
    obtain ⟨k, hk, rfl, ⟨A5, n5, c5, rfl, hps, hfr⟩, hq, hnx⟩ := hrel
    have hsz := hnx.size
    have hqlt := hq.lt
    by_cases hlt : k < n
    · obtain ⟨b, off, rfl, hb, hc⟩ := H.out.at_ (by omega)
      have hkl : k < ops.length := by have := Hlen.out; omega
      have hc0 : wr.cell? ⟨b, off + k * 3, none⟩ = some (I ops[k].1) := (hnx.cell (by exact hb)).trans (hc k hlt).1
      have hc1 : wr.cell? ⟨b, off + k * 3 + 1, none⟩ = some (I ops[k].2.1) := (hnx.cell (by exact hb)).trans (hc k hlt).2.1
      have hc2 : wr.cell? ⟨b, off + k * 3 + 2, none⟩ = some (I ops[k].2.2) := (hnx.cell (by exact hb)).trans (hc k hlt).2.2
      have HPS := Lib.hid hps
      have HFR := Lib.hid hfr
      have HQ := Lib.hid hq
      have HNX := Lib.hid hnx
      have HQL := Lib.hid hqlt
      have hn5 : n5 ≤ 200 := by
        have := hps.len
        rcases Nat.eq_zero_or_pos k with h0 | h0
        · subst h0; simp [runR] at this; omega
        · have e := runR_succ ops (k - 1) (by omega)
          rw [show k - 1 + 1 = k by omega] at e
          rw [e] at this
          have h3 := doL_len (runR (ops.take (k - 1))).1 (ops[k - 1]).1 (ops[k - 1]).2.1 (ops[k - 1]).2.2
          simp only [stepR] at this
          omega
      clear hc hps hfr hq hnx hmk hqlt
      go_wp2_with fail
      have hba : Below wr.heap.size wr (wr.alloc (.cells #[I ops[k].1, I ops[k].2.1, I ops[k].2.2] 69)) := (Below.refl _ _).alloc (Nat.le_refl _) _
      refine (Do_any A5 n5 c5 (runR (ops.take k)).1 ops[k].1 ops[k].2.1 ops[k].2.2 _ (HPS.out.below hba) (by omega)).mono ?_
      rintro e w2 ⟨A6, n6, c6, rfl, hps6, hb6, hfr6⟩
      have hbr : Below wr.heap.size wr w2 := hba.trans (hb6.mono (by simp))
      have hq2 : QB w2 w.heap.size 51 (ansTo ops k) := HQ.out.below hbr HQL.out
      have hal : k < (ansTo ops k).length := by rw [ansTo_len ops k (by omega)]; exact hkl
      have hcc := flatA_at (ansTo ops k) k hal
      have a0 := (hq2.cell _).trans hcc.1
      have a1 := (hq2.cell _).trans hcc.2.1
      have a2 := (hq2.cell _).trans hcc.2.2.1
      have a3 := (hq2.cell _).trans hcc.2.2.2
      have f0 := hq2.frozen (k * 4)
      have f1 := hq2.frozen (k * 4 + 1)
      have f2 := hq2.frozen (k * 4 + 2)
      have f3 := hq2.frozen (k * 4 + 3)
      have hset := hq2.set k (doA (runR (ops.take k)).1 ops[k].1 ops[k].2.1) hal
      rw [ansTo_succ ops k hkl] at hset
      have HSET := Lib.hid hset
      have hfr7 : ∀ ad, A6 = some ad → w.heap.size + 1 ≤ ad.block := fun ad h => by
        have h1 := hfr6 ad h
        have h2 := HQL.out
        simp at h1
        omega
      have HFR7 := Lib.hid hfr7
      have HP6 := Lib.hid hps6
      have HB2 := Lib.hid (HNX.out.trans (hbr.mono HNX.out.size))
      have hrs := runR_succ ops k hkl
      have HRS := Lib.hid hrs
      clear hba hb6 hfr6 hps6 hbr hq2 hcc hset hfr7 hrs
      go_wp2
      go_roundw
      case rel =>
        refine ⟨k + 1, by omega, by go_num, ⟨A6, n6, c6, rfl, ?_, HFR7.out⟩, HSET.out, ?_⟩
        · rw [HRS.out]
          have hA : ∀ ad, A6 = some ad → ad.block ≠ w.heap.size := fun ad h => by have := HFR7.out ad h; omega
          exact (((HP6.out.far (p := ⟨w.heap.size, k * 4, none⟩) hA _).far (p := ⟨w.heap.size, k * 4 + 1, none⟩) hA _).far (p := ⟨w.heap.size, k * 4 + 2, none⟩) hA _).far (p := ⟨w.heap.size, k * 4 + 3, none⟩) hA _
        · exact (((HB2.out.setCell (by simp) _).setCell (by simp) _).setCell (by simp) _).setCell (by simp) _
      case measure => simp [intOf]; omega
    · have hkn : k = n := by omega
      subst hkn
      have htk : ops.take k = ops := List.take_of_length_le (by have := Hlen.out; omega)
      have hat : ansTo ops k = (runR ops).2 := by unfold ansTo; rw [htk, Hlen.out]; simp
      rw [htk] at hps
      rw [hat] at hq
      have has := hq.as_ (c := k) (by rw [runR_len, Hlen.out]; exact Nat.le_refl _)
      rw [runR_len, Hlen.out] at has
      have HPS := Lib.hid hps
      have HAS := Lib.hid has
      have HNX := Lib.hid hnx
      clear hps has hnx hq hat htk hfr hqlt hmk
      go_wp2
      go_ret3
      exact ⟨_, _, _, _, _, _, rfl, HPS.out, HAS.out, HNX.out⟩

set_option maxRecDepth 100000 in
set_option maxHeartbeats 1000000 in
theorem Run_large (A : Option Addr) (n c : Nat) (w : World) (hn : 300 < n) (hm : n ≤ 9223372036854775807) :
    Calls Tryz.prog 19 #[.slice A n c] w (RetRun [] [] 2 w) := by
  go_enter Tryz.func19, Tryz.ntmps19
  go_wp2
  go_ret3
  exact ⟨none, 0, 0, none, 0, 0, rfl, ⟨rfl, Rd.none_⟩, ⟨rfl, Rd.none_⟩, Below.refl _ _⟩

end Go.Proofs.YtpnjnedfcdppaaaGreatDoor

/-
  ROWS OF OPS of the call's own.
-/
namespace Go.Proofs.YtpnjnedfcdppaaaGreatDoor
open Go.RowKit

def flatO : List OP → List Value
  | [] => []
  | o :: t => I o.1 :: I o.2.1 :: I o.2.2 :: flatO t
theorem flatO_length (l : List OP) : (flatO l).length = l.length * 3 := by induction l <;> simp [flatO, *]; omega
theorem flatO_append (l m : List OP) : flatO (l ++ m) = flatO l ++ flatO m := by induction l <;> simp [flatO, *]
theorem flatO_take (l : List OP) (k : Nat) : (flatO l).take (k * 3) = flatO (l.take k) := by
  induction l generalizing k with
  | nil => simp [flatO]
  | cons o t ih =>
    cases k with
    | zero => simp [flatO]
    | succ k => rw [show (k + 1) * 3 = k * 3 + 1 + 1 + 1 by omega]; simp [flatO, ih]
theorem flatO_at (l : List OP) (i j : Nat) (h : i < l.length) (hj : j < 3) : (flatO l)[i * 3 + j]? = some (of_ l i j) := by
  induction l generalizing i with
  | nil => simp at h
  | cons o t ih =>
    cases i with
    | zero => rcases (show j = 0 ∨ j = 1 ∨ j = 2 by omega) with rfl | rfl | rfl <;> simp [flatO, of_]
    | succ i =>
      rw [show (i + 1) * 3 + j = i * 3 + j + 1 + 1 + 1 by omega]
      simp only [flatO, List.getElem?_cons_succ]
      rw [ih i (by simpa using h)]
      simp [of_]
theorem flatO_one (l : List OP) : ∀ u ∈ flatO l, u.oneCell' = true := by
  induction l with
  | nil => intro u h; cases h
  | cons o t ih =>
    intro u h
    simp [flatO] at h
    rcases h with rfl | rfl | rfl | h
    · rfl
    · rfl
    · rfl
    · exact ih u h
/-- a row of ops of the call's own -/
def OwnO (w : World) (base : Nat) (v : Value) (L : List OP) : Prop := w.ownsRow base 69 3 v L.length (flatO L)
theorem OwnO.os {w : World} {base : Nat} {v : Value} {L : List OP} (h : OwnO w base v L) : ∃ A c, v = .slice A L.length c ∧ OS w A L.length c L := by
  rcases h.2 with ⟨rfl, h0⟩ | ⟨g, cap, cur, rfl, hb, hg, hnc, _, hsz, htk⟩
  · have hl : L = [] := List.eq_nil_of_length_eq_zero h0
    subst hl
    exact ⟨none, 0, rfl, ⟨rfl, Rd.none_⟩⟩
  · refine ⟨_, cap, rfl, ⟨rfl, hnc, fun _ => ⟨g, 0, rfl, ?_, fun i hi j hj => ?_⟩⟩⟩
    · rcases Nat.lt_or_ge g w.heap.size with hlt | hge
      · exact hlt
      · rw [Array.getElem?_eq_none hge] at hg; cases hg
    · rw [cell_of_row _ _ _ _ _ _ hg]
      have h1 := flatO_at L i j hi hj
      rw [← htk, List.getElem?_take, if_pos (by omega)] at h1
      simpa using h1
theorem OwnO.prefix_ {w : World} {base k : Nat} {A : Option Addr} {c : Nat} {L : List OP} (h : OwnO w base (.slice A L.length c) L) (hk : k < L.length) : OwnO w base (.slice A k c) (L.take k) := by
  rcases h.2 with ⟨_, h0⟩ | ⟨g, cap, cur, e, hb, hg, hnc, hm, hsz, htk⟩
  · omega
  · have hl : (L.take k).length = k := by rw [List.length_take]; omega
    injection e with e1 e2 e3
    subst e1 e3
    refine ⟨by rw [flatO_length], .inr ⟨g, c, cur, by rw [hl], hb, hg, by omega, hm, hsz, ?_⟩⟩
    rw [hl, ← flatO_take, ← htk, List.take_take, Nat.min_eq_left (by omega)]
theorem op_info : (Tryz.prog.info? 69).map (fun i => (i.zero, i.size, i.bytes)) = some (some (.agg #[I 0, I 0, I 0]), 3, 24) := by kernel_rfl
theorem OS.cells {w : World} {n c : Nat} {A : Option Addr} {l : List OP} (h : OS w A n c l) {ad : Addr} (e : A = some ad) : ∀ j u, (flatO l)[j]? = some u → w.cell? (ad.add j) = some u := by
  intro j u hu
  have hj : j < (flatO l).length := by
    rcases Nat.lt_or_ge j (flatO l).length with h1 | h1
    · exact h1
    · rw [List.getElem?_eq_none h1] at hu; cases hu
  rw [flatO_length, h.len] at hj
  obtain ⟨b, off, e2, hb, hc⟩ := h.rd.2 (by omega)
  rw [e] at e2
  injection e2 with e2
  subst e2
  have h1 := hc (j / 3) (by omega) (j % 3) (by omega)
  have h2 := flatO_at l (j / 3) (j % 3) (by rw [h.len]; omega) (by omega)
  rw [show j / 3 * 3 + j % 3 = j by omega] at h1 h2
  rw [addn, h1]
  rw [h2] at hu
  exact hu
theorem OS.drewN {w : World} {n c : Nat} {A : Option Addr} {l : List OP} (h : OS w A n c l) (k : Nat) : OS (w.drewN k) A n c l := ⟨h.len, h.rd⟩

theorem three_new (w : World) (a b c : Int) (t : Nat) : ∀ j u, [I a, I b, I c][j]? = some u → (w.alloc (.cells #[I a, I b, I c] t)).cell? ((⟨w.heap.size, 0, none⟩ : Addr).add j) = some u := by
  intro j u hu
  rw [addn, Nat.zero_add]
  have := heap_alloc_new w (.cells #[I a, I b, I c] t)
  rw [cell_of_row _ _ _ _ _ _ this]
  simpa using hu
theorem three_one (a b c : Int) : ∀ u ∈ [I a, I b, I c], u.oneCell' = true := by
  intro u hu
  simp at hu
  rcases hu with rfl | rfl | rfl <;> rfl
end Go.Proofs.YtpnjnedfcdppaaaGreatDoor

/-
  hedgref.MapKeys.
-/
namespace Go.Proofs.YtpnjnedfcdppaaaGreatDoor
open Go.RowKit

def kys (l : PL) : List Int := l.map Prod.fst
/-- numbers in new memory -/
def RetI (L : List Int) (w : World) (e : Ending) (w' : World) : Prop := ∃ A c, e = .returned (.slice A L.length c) ∧ IS w' A L.length c L ∧ Below w.heap.size w w'
theorem kys_take (l : PL) (k : Nat) (h : k < l.length) : kys (l.take (k + 1)) = kys (l.take k) ++ [l[k].1] := by
  unfold kys
  rw [List.take_succ_eq_append_getElem h, List.map_append]
  rfl

theorem IS.cell_at {w : World} {A : Option Addr} {n c : Nat} {l : List Int} (h : IS w A n c l) {k : Nat} (hk : k < n) : ∃ b off, A = some ⟨b, off, none⟩ ∧ b < w.heap.size ∧ w.cell? ⟨b, off + k, none⟩ = some (I (l[k]'(by rw [h.len]; exact hk))) := by
  obtain ⟨b, off, e, hb, hc⟩ := h.at_ (by omega)
  exact ⟨b, off, e, hb, hc k hk⟩
/-- the first k of them -/
def kysTo (l : PL) (k : Nat) : List Int := (kys l).take k ++ List.replicate (l.length - k) 0
theorem kys_len (l : PL) : (kys l).length = l.length := by simp [kys]
theorem kysTo_len (l : PL) (k : Nat) (h : k ≤ l.length) : (kysTo l k).length = l.length := by simp [kysTo, kys_len]; omega
theorem kysTo_set (l : PL) (k : Nat) (h : k < l.length) : (kysTo l k).set k l[k].1 = kysTo l (k + 1) := by
  unfold kysTo
  have h1 : ((kys l).take k).length = k := by simp [kys_len]; omega
  rw [List.set_append_right _ _ (by omega), h1, Nat.sub_self, List.take_succ_eq_append_getElem (by rw [kys_len]; exact h), show l.length - k = l.length - (k + 1) + 1 by omega, List.replicate_succ]
  simp [kys]
theorem kysTo_all (l : PL) : kysTo l l.length = kys l := by
  unfold kysTo
  rw [List.take_of_length_le (by rw [kys_len]; exact Nat.le_refl _)]
  simp

set_option maxRecDepth 100000 in
set_option maxHeartbeats 1000000 in
theorem MapKeys_any (A : Option Addr) (n c : Nat) (l : PL) (w : World) (h : PS w A n c l) (hn : n ≤ 1000) :
    Calls Tryz.prog 106 #[.slice A n c] w (RetI (kys l) w) := by
  have H := Lib.hid h
  have HL := Lib.hid h.len
  clear h
  obtain ⟨i0, hi, hz0, hz1, hz2⟩ := info_parts int_info
  have HI := Lib.hid hi
  have HZ0 := Lib.hid hz0
  have HZ1 := Lib.hid hz1
  have HZ2 := Lib.hid hz2
  clear hi hz0 hz1 hz2
  go_enter Tryz.func106, Tryz.ntmps106
  go_wp2
  go_loopw [3, 8] (fun v i wr => ∃ k : Nat, k ≤ n ∧ i = .int .i64 k ∧ OwnI wr w.heap.size v (kys (l.take k)) ∧ Below w.heap.size w wr) (fun _ i _ => n - (intOf i).toNat)
  case atStart => exact ⟨0, Nat.zero_le _, rfl, World.ownsRow_nil _ _ _ _, Below.refl _ _⟩
  case round =>
    obtain ⟨k, hk, rfl, hown, hnx⟩ := hrel
    by_cases hlt : k < n
    · have hkl : k < l.length := by rw [HL.out]; exact hlt
      obtain ⟨b, off, rfl, hbw, hcs⟩ := H.out.at_ (by omega)
      obtain ⟨x, hx⟩ : ∃ x, l[k].1 = x := ⟨_, rfl⟩
      obtain ⟨y, hy⟩ : ∃ y, l[k].2 = y := ⟨_, rfl⟩
      have hc0 : wr.cell? ⟨b, off + k * 2, none⟩ = some (I x) := by rw [← hx]; exact (hnx.cell (by exact hbw)).trans (hcs k hlt).1
      have hc1 : wr.cell? ⟨b, off + k * 2 + 1, none⟩ = some (I y) := by rw [← hy]; exact (hnx.cell (by exact hbw)).trans (hcs k hlt).2
      have HK := Lib.hid (kys_take l k hkl)
      rw [hx] at HK
      obtain ⟨xs, hxs⟩ : ∃ xs, kys (l.take k) = xs := ⟨_, rfl⟩
      have hxl : xs.length ≤ 1000 := by rw [← hxs]; simp [kys]; omega
      rw [hxs] at hown HK
      have HOWN := Lib.hid hown
      have HNX := Lib.hid hnx
      have hz := hnx.size
      clear hcs hx hy hown hnx hxs
      go_wp2_with (first
        | (at_builtin
           refine wpList_append_own_at _ rfl (.tmp 12) (.tmp 15) 46 rfl w.heap.size 3 i0 _ 1 8 Tryz.underlying46 HI.out HZ0.out HZ1.out HZ2.out rfl (by omega) _ xs.length (xs.map I) rfl (own_below HOWN.out (((Below.refl _ _).alloc (Nat.le_refl _) _).alloc (by simp) _)) ⟨wr.heap.size + 1, 0, none⟩ 1 1 [I x] rfl rfl (by have := cell_one_new (wr.alloc (.cells #[I x, I y] 48)) (I x) 3; simpa using this) (one_I x) (by unfold maxLen; omega) (by omega) (by simp; omega) ?_
           intro v2 w2 hown2 hgrow2 _ hat2)
        | fail)
      go_roundw
      case rel =>
        refine ⟨k + 1, by omega, by go_num, ?_, ?_⟩
        · rw [HK.out]
          unfold OwnI
          simpa using hown2
        · exact Below.grown ((HNX.out.alloc hz _).alloc (by simp; omega) _) hgrow2 (by simp; omega) (own_ge1 HOWN.out)
      case measure => simp [intOf]; omega
    · rw [List.take_of_length_le (by rw [HL.out]; omega)] at hown
      obtain ⟨A', c', rfl, his, _⟩ := hown.is_
      have HIS := Lib.hid his
      have HNX := Lib.hid hnx
      clear his hnx hown
      go_wp2
      go_ret
      exact ⟨A', c', rfl, HIS.out, HNX.out⟩

end Go.Proofs.YtpnjnedfcdppaaaGreatDoor

/-
  The desk: opOf; the desk in memory; keys.
-/
namespace Go.Proofs.YtpnjnedfcdppaaaGreatDoor
open Go.RowKit

/-- the op that a line asks for -/
def op2 (r : Option (List Nat)) : Option (Int × Int × Int) := match r with | some [a, b] => some (1, (a : Int), (b : Int)) | _ => none
def op1 (kind : Nat) (r : Option (List Nat)) : Option (Int × Int × Int) := match r with | some [a] => some ((kind : Int), (a : Int), 0) | _ => none
def dOp (kind : Nat) (l : List (List UInt8)) : Option (Int × Int × Int) := if kind = 1 then op2 (nms 2 l) else op1 kind (nms 1 l)
def RetOp (r : Option (Int × Int × Int)) (w : World) (e : Ending) (w' : World) : Prop :=
  match r with
  | some (k, a, b) => e = .returned (.agg #[I k, I a, I b]) ∧ Below w.heap.size w w'
  | none => e = .panicked (slipC 1) ∧ Below w.heap.size w w'
theorem nms_len {many : Nat} {l : List (List UInt8)} {ks : List Nat} (h : nms many l = some ks) : ks.length = many := by
  unfold nms at h
  split at h
  · next e => rw [nmsL_len h, e]
  · cases h
set_option maxRecDepth 100000 in
set_option maxHeartbeats 4000000 in
theorem opOf_any (kind : Nat) (A : Option Addr) (n c : Nat) (l : List (List UInt8)) (w : World) (h : WS w A n c l) :
    Calls Tryz.prog 94 #[I kind, .slice A n c] w (RetOp (dOp kind l) w) := by
  by_cases hk : kind = 1
  · subst hk
    have hb0 : Below w.heap.size w (w.alloc (.cells #[I 0, I 0, I 0] 69)) := (Below.refl _ _).alloc (Nat.le_refl _) _
    have HN := Lib.hid (numbersOf_any A n c 2 l _ (h.below hb0) (by omega))
    have HB0 := Lib.hid hb0
    obtain ⟨R, hR⟩ : ∃ R, nms 2 l = R := ⟨_, rfl⟩
    rw [hR] at HN
    have HD : Hid (dOp 1 l = op2 R) := by show _ = _; unfold dOp; rw [if_pos rfl, hR]
    have HLN : Hid (∀ ks, R = some ks → ks.length = 2) := fun ks e => nms_len (by rw [hR, e])
    clear h hR hb0
    go_enter Tryz.func94, Tryz.ntmps94
    go_wp2_with fail
    refine HN.out.mono ?_
    rintro e w2 hr
    cases R with
    | none =>
      obtain ⟨rfl, hb⟩ := hr
      have HB := Lib.hid hb
      clear hb
      go_wp2
      refine ⟨rfl, ?_⟩
      rw [HD.out]
      exact ⟨rfl, HB0.out.trans (HB.out.mono HB0.out.size)⟩
    | some ks =>
      have h2 := HLN.out ks rfl
      obtain ⟨a, b, rfl⟩ : ∃ a b, ks = [a, b] := by
        match ks, h2 with
        | [a, b], _ => exact ⟨a, b, rfl⟩
      obtain ⟨g, rfl, hI, hg, hb⟩ := hr
      have c0 : w2.cell? ⟨g, 0, none⟩ = some (I a) := by rw [hI.cell]; rfl
      have c1 : w2.cell? ⟨g, 1, none⟩ = some (I b) := by rw [hI.cell]; rfl
      have hsz : (w.alloc (.cells #[I 0, I 0, I 0] 69)).heap.size = w.heap.size + 1 := by simp
      have hw2 : w2.heap[w.heap.size]? = some (.cells #[I 0, I 0, I 0] 69 (0, 0)) := (hb.block _ (by omega)).trans (heap_alloc_new w _)
      have o0 : w2.cell? ⟨w.heap.size, 0, none⟩ = some (I 0) := by simp [World.cell?, hw2]
      have o1 : w2.cell? ⟨w.heap.size, 1, none⟩ = some (I 0) := by simp [World.cell?, hw2]
      have o2 : w2.cell? ⟨w.heap.size, 2, none⟩ = some (I 0) := by simp [World.cell?, hw2]
      have f0 : w2.frozen? ⟨w.heap.size, 0, none⟩ = false := by simp [World.frozen?, hw2]
      have f1 : w2.frozen? ⟨w.heap.size, 1, none⟩ = false := by simp [World.frozen?, hw2]
      have f2 : w2.frozen? ⟨w.heap.size, 2, none⟩ = false := by simp [World.frozen?, hw2]
      have HB : Hid (Below w.heap.size w w2) := HB0.out.trans (hb.mono HB0.out.size)
      clear hb hI hsz hw2
      go_wp2
      go_region
      all_goals go_wp2
      all_goals
        refine bodyPost_ret (v := .agg #[I 1, I a, I b]) (by simp [results, Tryz.results94, go_sem, o0, o1, o2]) rfl ?_
        rw [HD.out]
        exact ⟨rfl, (((HB.out.drew).setCell (p := ⟨w.heap.size, 0, none⟩) (Nat.le_refl _) _).setCell (p := ⟨w.heap.size, 1, none⟩) (Nat.le_refl _) _).setCell (p := ⟨w.heap.size, 2, none⟩) (Nat.le_refl _) _⟩
  · have hk1 : ((kind : Int) == 1) = false := by rw [beq_eq_false_iff_ne]; omega
    have hb0 : Below w.heap.size w (w.alloc (.cells #[I 0, I 0, I 0] 69)) := (Below.refl _ _).alloc (Nat.le_refl _) _
    have HN := Lib.hid (numbersOf_any A n c 1 l _ (h.below hb0) (by omega))
    have HB0 := Lib.hid hb0
    obtain ⟨R, hR⟩ : ∃ R, nms 1 l = R := ⟨_, rfl⟩
    rw [hR] at HN
    have HD : Hid (dOp kind l = op1 kind R) := by show _ = _; unfold dOp; rw [if_neg hk, hR]
    have HLN : Hid (∀ ks, R = some ks → ks.length = 1) := fun ks e => nms_len (by rw [hR, e])
    clear h hR hb0 hk
    go_enter Tryz.func94, Tryz.ntmps94
    go_wp2_with fail
    refine HN.out.mono ?_
    rintro e w2 hr
    cases R with
    | none =>
      obtain ⟨rfl, hb⟩ := hr
      have HB := Lib.hid hb
      clear hb
      go_wp2
      refine ⟨rfl, ?_⟩
      rw [HD.out]
      exact ⟨rfl, HB0.out.trans (HB.out.mono HB0.out.size)⟩
    | some ks =>
      have h2 := HLN.out ks rfl
      obtain ⟨a, rfl⟩ : ∃ a, ks = [a] := by
        match ks, h2 with
        | [a], _ => exact ⟨a, rfl⟩
      obtain ⟨g, rfl, hI, hg, hb⟩ := hr
      have c0 : w2.cell? ⟨g, 0, none⟩ = some (I a) := by rw [hI.cell]; rfl
      have hsz : (w.alloc (.cells #[I 0, I 0, I 0] 69)).heap.size = w.heap.size + 1 := by simp
      have hw2 : w2.heap[w.heap.size]? = some (.cells #[I 0, I 0, I 0] 69 (0, 0)) := (hb.block _ (by omega)).trans (heap_alloc_new w _)
      have o0 : w2.cell? ⟨w.heap.size, 0, none⟩ = some (I 0) := by simp [World.cell?, hw2]
      have o1 : w2.cell? ⟨w.heap.size, 1, none⟩ = some (I 0) := by simp [World.cell?, hw2]
      have o2 : w2.cell? ⟨w.heap.size, 2, none⟩ = some (I 0) := by simp [World.cell?, hw2]
      have f0 : w2.frozen? ⟨w.heap.size, 0, none⟩ = false := by simp [World.frozen?, hw2]
      have f1 : w2.frozen? ⟨w.heap.size, 1, none⟩ = false := by simp [World.frozen?, hw2]
      have f2 : w2.frozen? ⟨w.heap.size, 2, none⟩ = false := by simp [World.frozen?, hw2]
      have HB : Hid (Below w.heap.size w w2) := HB0.out.trans (hb.mono HB0.out.size)
      clear hb hI hsz hw2
      go_wp2
      refine bodyPost_ret (v := .agg #[I kind, I a, I 0]) (by simp [results, Tryz.results94, go_sem, o0, o1, o2]) rfl ?_
      rw [HD.out]
      exact ⟨rfl, ((HB.out.setCell (p := ⟨w.heap.size, 0, none⟩) (Nat.le_refl _) _).setCell (p := ⟨w.heap.size, 1, none⟩) (Nat.le_refl _) _).setCell (p := ⟨w.heap.size, 2, none⟩) (Nat.le_refl _) _⟩
end Go.Proofs.YtpnjnedfcdppaaaGreatDoor
