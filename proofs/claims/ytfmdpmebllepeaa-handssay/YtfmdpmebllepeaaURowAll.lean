/-
  Joined texts: YtfmdpmebllepeaaUMem, YtfmdpmebllepeaaUHelp, YtfmdpmebllepeaaUIns, YtfmdpmebllepeaaUBase, YtfmdpmebllepeaaURow.
-/
import Derived.Test.YtfmdpmebllepeaaJRunWAll
import Derived.Test.YtfmdpmebllepeaaInts
import Derived.BigRegion
import Derived.BigQuiet
import Derived.Deep.QuietTactic
import Derived.Test.YtfmdpmebllepeaaUTellAll
import Derived.Deep.AppendLies
import Derived.Deep.RegionLaw
import Derived.Test.YtfmdpmebllepeaaUInvAll
/-
  hedgref's Bench in memory: beads, hands and what is told in rows of the call's own. Nothing of the program but its types' numbers.
-/
namespace Go.Proofs.Ytfmdpmebllepeaa
open Go.RowKit

theorem rf_len {α : Type} {m : Nat} (f : Nat → List α) (hm : ∀ i, (f i).length = m) : ∀ n, ((List.range n).flatMap f).length = n * m
  | 0 => by simp
  | n + 1 => by
    rw [List.range_succ, List.flatMap_append, List.length_append, rf_len f hm n]
    simp [hm, Nat.succ_mul]
theorem rf_congr {α : Type} {f f' : Nat → List α} : ∀ n, (∀ j, j < n → f j = f' j) → (List.range n).flatMap f = (List.range n).flatMap f'
  | 0, _ => rfl
  | n + 1, h => by
    rw [List.range_succ, List.flatMap_append, List.flatMap_append, rf_congr n (fun j hj => h j (by omega))]
    simp [h n (Nat.lt_succ_self n)]
theorem rf_lt {i n m k : Nat} (hi : i < n) (hk : k < m) : i * m + k < n * m := by
  have h1 : (i + 1) * m ≤ n * m := Nat.mul_le_mul_right m hi
  rw [Nat.succ_mul] at h1
  omega
theorem rf_at {α : Type} {m : Nat} (f : Nat → List α) (hm : ∀ i, (f i).length = m) : ∀ (n : Nat) {i k : Nat}, i < n → k < m → ((List.range n).flatMap f)[i * m + k]? = (f i)[k]?
  | 0, i, k, hi, _ => absurd hi (Nat.not_lt_zero _)
  | n + 1, i, k, hi, hk => by
    rw [List.range_succ, List.flatMap_append]
    have hl := rf_len f hm n
    by_cases e : i = n
    · subst e
      rw [List.getElem?_append_right (by omega), hl, Nat.add_sub_cancel_left]
      simp
    · have hlt := rf_lt (show i < n by omega) hk
      rw [List.getElem?_append_left (by omega)]
      exact rf_at f hm n (by omega) hk
theorem rf_set {α : Type} {m : Nat} {f f' : Nat → List α} (hm : ∀ i, (f i).length = m) {i k : Nat} {v : α} (hk : k < m) (ho : ∀ j, j ≠ i → f' j = f j) (he : f' i = (f i).set k v) : ∀ n, i < n → ((List.range n).flatMap f).set (i * m + k) v = (List.range n).flatMap f'
  | 0, hi => absurd hi (Nat.not_lt_zero _)
  | n + 1, hi => by
    rw [List.range_succ, List.flatMap_append, List.flatMap_append]
    have hl := rf_len f hm n
    by_cases e : i = n
    · subst e
      rw [List.set_append_right _ _ (by omega), hl, Nat.add_sub_cancel_left, rf_congr i (fun j hj => (ho j (by omega)).symm)]
      simp [he]
    · have hlt := rf_lt (show i < n by omega) hk
      rw [List.set_append_left _ _ (by omega), rf_set hm hk ho he n (by omega)]
      simp [ho n (fun h => e h.symm)]

theorem urow_cell {w : World} {B e s n g c : Nat} {xs : List Value} (h : w.ownsRow B e s (.slice (some ⟨g, 0, none⟩) n c) n xs) {j : Nat} (hj : j < xs.length) : w.cell? ⟨g, j, none⟩ = xs[j]? := by
  rcases h.2 with ⟨h0, _⟩ | ⟨g', cap, cur, h0, h2, h3, h4, h5, h6, h7⟩
  · cases h0
  · cases h0
    rw [jcell h3, ← h7, List.getElem?_take, if_pos (by rw [← h.1]; exact hj)]
    simp
theorem urow_set {w : World} {B e s n g c : Nat} {xs : List Value} (h : w.ownsRow B e s (.slice (some ⟨g, 0, none⟩) n c) n xs) (j : Nat) (u : Value) : (w.setCell ⟨g, j, none⟩ u).ownsRow B e s (.slice (some ⟨g, 0, none⟩) n c) n (xs.set j u) := by
  rcases h.2 with ⟨h0, _⟩ | ⟨g', cap, cur, h0, h2, h3, h4, h5, h6, h7⟩
  · cases h0
  · cases h0
    refine ⟨by rw [List.length_set]; exact h.1, .inr ⟨g, c, cur.setIfInBounds j u, rfl, h2, jset_at h3, h4, h5, by simp [h6], ?_⟩⟩
    rw [← h7]
    simp [List.take_set]
theorem urow_keep {w w' : World} {B e s n : Nat} {v : Value} {xs : List Value} (h : w.ownsRow B e s v n xs) (hk : ∀ g, v.ownBlock = some g → w'.heap[g]? = w.heap[g]?) : w'.ownsRow B e s v n xs := by
  refine ⟨h.1, ?_⟩
  rcases h.2 with h0 | ⟨g, cap, cur, rfl, h2, h3, h4⟩
  · exact .inl h0
  · exact .inr ⟨g, cap, cur, rfl, h2, (hk g rfl).trans h3, h4⟩
theorem urow_blk {w : World} {B e s n : Nat} {v : Value} {xs : List Value} (h : w.ownsRow B e s v n xs) {g : Nat} (hg : v.ownBlock = some g) : ∃ C, w.heap[g]? = some (.cells C e (0, 0)) ∧ B ≤ g := by
  rcases h.2 with ⟨rfl, _⟩ | ⟨g', cap, cur, rfl, h2, h3, _⟩
  · simp [Value.ownBlock] at hg
  · simp [Value.ownBlock] at hg
    subst hg
    exact ⟨cur, h3, h2⟩
theorem ublk_ne {w : World} {g g' t t' : Nat} {C C' : Array Value} (h : w.heap[g]? = some (.cells C t (0, 0))) (h' : w.heap[g']? = some (.cells C' t' (0, 0))) (hne : t ≠ t') : g ≠ g' := fun e => by
  rw [e, h'] at h
  cases h
  exact hne rfl
theorem urow_far {w : World} {B e s n : Nat} {v : Value} {xs : List Value} (h : w.ownsRow B e s v n xs) {p : Addr} {C : Array Value} {t : Nat} (hp : w.heap[p.block]? = some (.cells C t (0, 0))) (ht : t ≠ e) (u : Value) : (w.setCell p u).ownsRow B e s v n xs :=
  urow_keep h fun g hg => by
    obtain ⟨C', h1, _⟩ := urow_blk h hg
    exact Below.heap_setCell _ _ _ _ (ublk_ne h1 hp (fun e => ht e.symm))

def nxI (s : Bs) (i : Nat) : Int := if i = s.tl then -1 else (s.nx i : Int)
theorem nxI_ne {s : Bs} {i : Nat} (h : i ≠ s.tl) : nxI s i = (s.nx i : Int) := if_neg h
def bc4 (s : Bs) (lk : Nat → Bool) (i : Nat) : List Value := [I (s.key i), I (nxI s i), .bool (s.mrk i), .bool (lk i)]
def flatB (s : Bs) (lk : Nat → Bool) : List Value := (List.range s.sz).flatMap (bc4 s lk)
def hc5 (ix : Nat → Nat) (hs : Nat → Hd) (v : Nat) : List Value := [I (ix v), I (hs v).at_, I (hs v).p, I (hs v).c, .bool (hs v).is_]
def flatH (nh : Nat) (ix : Nat → Nat) (hs : Nat → Hd) : List Value := (List.range nh).flatMap (hc5 ix hs)
theorem flatB_len (s : Bs) (lk : Nat → Bool) : (flatB s lk).length = s.sz * 4 := rf_len (m := 4) (bc4 s lk) (fun _ => rfl) s.sz
theorem flatH_len (nh : Nat) (ix : Nat → Nat) (hs : Nat → Hd) : (flatH nh ix hs).length = nh * 5 := rf_len (m := 5) (hc5 ix hs) (fun _ => rfl) nh

structure UB (w : World) (base bb gB cB gH cH al nh : Nat) (s : Bs) (lk : Nat → Bool) (ix : Nat → Nat) (hs : Nat → Hd) (pv dv : Value) (now : Nat) (D : List Dn) : Prop where
  box : w.heap[bb]? = some (.cells #[I al, .slice (some ⟨gB, 0, none⟩) s.sz cB, .slice (some ⟨gH, 0, none⟩) nh cH, pv, I now, dv] 59 (0, 0))
  bge : base ≤ bb
  beads : w.ownsRow base 56 4 (.slice (some ⟨gB, 0, none⟩) s.sz cB) s.sz (flatB s lk)
  hands : w.ownsRow base 81 5 (.slice (some ⟨gH, 0, none⟩) nh cH) nh (flatH nh ix hs)
  done : OwnD w base dv D
section
variable {w w' : World} {base bb gB cB gH cH al nh : Nat} {s : Bs} {lk : Nat → Bool} {ix : Nat → Nat} {hs : Nat → Hd} {pv dv : Value} {now : Nat} {D : List Dn}
theorem UB.bblk (h : UB w base bb gB cB gH cH al nh s lk ix hs pv dv now D) : ∃ C, w.heap[gB]? = some (.cells C 56 (0, 0)) ∧ base ≤ gB := urow_blk h.beads rfl
theorem UB.hblk (h : UB w base bb gB cB gH cH al nh s lk ix hs pv dv now D) : ∃ C, w.heap[gH]? = some (.cells C 81 (0, 0)) ∧ base ≤ gH := urow_blk h.hands rfl
theorem UB.fb (h : UB w base bb gB cB gH cH al nh s lk ix hs pv dv now D) :
    w.cell? ⟨bb, 0, none⟩ = some (I al) ∧ w.cell? ⟨bb, 1, none⟩ = some (.slice (some ⟨gB, 0, none⟩) s.sz cB) ∧ w.cell? ⟨bb, 2, none⟩ = some (.slice (some ⟨gH, 0, none⟩) nh cH) ∧ w.cell? ⟨bb, 3, none⟩ = some pv ∧ w.cell? ⟨bb, 4, none⟩ = some (I now) ∧ w.cell? ⟨bb, 5, none⟩ = some dv ∧ ∀ k, w.frozen? ⟨bb, k, none⟩ = false :=
  ⟨by rw [jcell h.box]; rfl, by rw [jcell h.box]; rfl, by rw [jcell h.box]; rfl, by rw [jcell h.box]; rfl, by rw [jcell h.box]; rfl, by rw [jcell h.box]; rfl, fun k => jfroz h.box⟩
theorem UB.bcell (h : UB w base bb gB cB gH cH al nh s lk ix hs pv dv now D) {i k : Nat} (hi : i < s.sz) (hk : k < 4) : w.cell? ⟨gB, i * 4 + k, none⟩ = (bc4 s lk i)[k]? := by
  rw [urow_cell h.beads (by rw [flatB_len]; exact rf_lt hi hk)]
  exact rf_at (m := 4) (bc4 s lk) (fun _ => rfl) _ hi hk
theorem UB.hcell (h : UB w base bb gB cB gH cH al nh s lk ix hs pv dv now D) {v k : Nat} (hv : v < nh) (hk : k < 5) : w.cell? ⟨gH, v * 5 + k, none⟩ = (hc5 ix hs v)[k]? := by
  rw [urow_cell h.hands (by rw [flatH_len]; exact rf_lt hv hk)]
  exact rf_at (m := 5) (hc5 ix hs) (fun _ => rfl) _ hv hk
theorem UB.bd (h : UB w base bb gB cB gH cH al nh s lk ix hs pv dv now D) {i : Nat} (hi : i < s.sz) :
    w.cell? ⟨gB, i * 4, none⟩ = some (I (s.key i)) ∧ w.cell? ⟨gB, i * 4 + 1, none⟩ = some (I (nxI s i)) ∧ w.cell? ⟨gB, i * 4 + 2, none⟩ = some (.bool (s.mrk i)) ∧ w.cell? ⟨gB, i * 4 + 3, none⟩ = some (.bool (lk i)) ∧ ∀ k, w.frozen? ⟨gB, k, none⟩ = false := by
  obtain ⟨C, hC, _⟩ := h.bblk
  exact ⟨h.bcell (k := 0) hi (by omega), h.bcell (k := 1) hi (by omega), h.bcell (k := 2) hi (by omega), h.bcell (k := 3) hi (by omega), fun k => jfroz hC⟩
theorem UB.hd (h : UB w base bb gB cB gH cH al nh s lk ix hs pv dv now D) {v : Nat} (hv : v < nh) :
    w.cell? ⟨gH, v * 5, none⟩ = some (I (ix v)) ∧ w.cell? ⟨gH, v * 5 + 1, none⟩ = some (I (hs v).at_) ∧ w.cell? ⟨gH, v * 5 + 2, none⟩ = some (I (hs v).p) ∧ w.cell? ⟨gH, v * 5 + 3, none⟩ = some (I (hs v).c) ∧ w.cell? ⟨gH, v * 5 + 4, none⟩ = some (.bool (hs v).is_) ∧ ∀ k, w.frozen? ⟨gH, k, none⟩ = false := by
  obtain ⟨C, hC, _⟩ := h.hblk
  exact ⟨h.hcell (k := 0) hv (by omega), h.hcell (k := 1) hv (by omega), h.hcell (k := 2) hv (by omega), h.hcell (k := 3) hv (by omega), h.hcell (k := 4) hv (by omega), fun k => jfroz hC⟩
theorem UB.keep (h : UB w base bb gB cB gH cH al nh s lk ix hs pv dv now D) (hb : Below w.heap.size w w') : UB w' base bb gB cB gH cH al nh s lk ix hs pv dv now D :=
  ⟨(hb.block bb (jblk h.box)).trans h.box, h.bge, own_below h.beads hb, own_below h.hands hb, own_below h.done hb⟩
theorem UB.bset (h : UB w base bb gB cB gH cH al nh s lk ix hs pv dv now D) {i k : Nat} {u : Value} {s' : Bs} {lk' : Nat → Bool} (hi : i < s.sz) (hk : k < 4) (hsz : s'.sz = s.sz) (ho : ∀ j, j ≠ i → bc4 s' lk' j = bc4 s lk j) (he : bc4 s' lk' i = (bc4 s lk i).set k u) :
    UB (w.setCell ⟨gB, i * 4 + k, none⟩ u) base bb gB cB gH cH al nh s' lk' ix hs pv dv now D := by
  obtain ⟨C, hC, hge⟩ := h.bblk
  have hb := h.box
  rw [← hsz] at hb
  refine ⟨(Below.heap_setCell _ _ _ _ (ublk_ne hb hC (by decide))).trans hb, h.bge, ?_, urow_far h.hands hC (by decide) u, urow_far h.done hC (by decide) u⟩
  have := urow_set h.beads (i * 4 + k) u
  have e : (flatB s lk).set (i * 4 + k) u = flatB s' lk' := by
    unfold flatB
    rw [rf_set (m := 4) (f := bc4 s lk) (f' := bc4 s' lk') (fun _ => rfl) hk ho he s.sz hi, hsz]
  rw [e, ← hsz] at this
  exact this
theorem UB.lkset (h : UB w base bb gB cB gH cH al nh s lk ix hs pv dv now D) {i : Nat} (hi : i < s.sz) (b : Bool) : UB (w.setCell ⟨gB, i * 4 + 3, none⟩ (.bool b)) base bb gB cB gH cH al nh s (upd lk i b) ix hs pv dv now D :=
  h.bset (k := 3) hi (by omega) rfl (fun j hj => by unfold bc4; rw [upd_other _ _ hj]) (by unfold bc4; rw [upd_same]; rfl)
theorem UB.mkset (h : UB w base bb gB cB gH cH al nh s lk ix hs pv dv now D) {i : Nat} (hi : i < s.sz) : UB (w.setCell ⟨gB, i * 4 + 2, none⟩ (.bool true)) base bb gB cB gH cH al nh (s.mark i) lk ix hs pv dv now D :=
  h.bset (k := 2) hi (by omega) rfl (fun j hj => by
    show [_, I (nxI s j), .bool (upd s.mrk i true j), _] = [_, I (nxI s j), .bool (s.mrk j), _]
    rw [upd_other _ _ hj]; rfl) (by
    show [_, I (nxI s i), .bool (upd s.mrk i true i), _] = [_, I (nxI s i), .bool true, _]
    rw [upd_same]; rfl)
theorem UB.nxset (h : UB w base bb gB cB gH cH al nh s lk ix hs pv dv now D) {i : Nat} (hi : i < s.sz) (hit : i ≠ s.tl) (j : Nat) : UB (w.setCell ⟨gB, i * 4 + 1, none⟩ (I j)) base bb gB cB gH cH al nh { s with nx := upd s.nx i j } lk ix hs pv dv now D :=
  h.bset (k := 1) hi (by omega) rfl (fun j' hj => by
    show [_, I (if j' = s.tl then -1 else ((upd s.nx i j j' : Nat) : Int)), _, _] = [_, I (if j' = s.tl then -1 else ((s.nx j' : Nat) : Int)), _, _]
    rw [upd_other _ _ hj]) (by
    show [_, I (if i = s.tl then -1 else ((upd s.nx i j i : Nat) : Int)), _, _] = [_, I j, _, _]
    rw [if_neg hit, upd_same])
theorem UB.hset (h : UB w base bb gB cB gH cH al nh s lk ix hs pv dv now D) {v k : Nat} {u : Value} {ix' : Nat → Nat} {hs' : Nat → Hd} (hv : v < nh) (hk : k < 5) (ho : ∀ j, j ≠ v → hc5 ix' hs' j = hc5 ix hs j) (he : hc5 ix' hs' v = (hc5 ix hs v).set k u) :
    UB (w.setCell ⟨gH, v * 5 + k, none⟩ u) base bb gB cB gH cH al nh s lk ix' hs' pv dv now D := by
  obtain ⟨C, hC, hge⟩ := h.hblk
  refine ⟨(Below.heap_setCell _ _ _ _ (ublk_ne h.box hC (by decide))).trans h.box, h.bge, urow_far h.beads hC (by decide) u, ?_, urow_far h.done hC (by decide) u⟩
  have := urow_set h.hands (v * 5 + k) u
  have e : (flatH nh ix hs).set (v * 5 + k) u = flatH nh ix' hs' := by
    unfold flatH
    rw [rf_set (m := 5) (f := hc5 ix hs) (f' := hc5 ix' hs') (fun _ => rfl) hk ho he nh hv]
  rw [e] at this
  exact this
theorem UB.aset (h : UB w base bb gB cB gH cH al nh s lk ix hs pv dv now D) {v : Nat} (hv : v < nh) (a : Nat) : UB (w.setCell ⟨gH, v * 5 + 1, none⟩ (I a)) base bb gB cB gH cH al nh s lk ix (upd hs v { hs v with at_ := a }) pv dv now D :=
  h.hset (k := 1) hv (by omega) (fun j hj => by unfold hc5; rw [upd_other _ _ hj]) (by unfold hc5; rw [upd_same]; rfl)
theorem UB.pset (h : UB w base bb gB cB gH cH al nh s lk ix hs pv dv now D) {v : Nat} (hv : v < nh) (a : Nat) : UB (w.setCell ⟨gH, v * 5 + 2, none⟩ (I a)) base bb gB cB gH cH al nh s lk ix (upd hs v { hs v with p := a }) pv dv now D :=
  h.hset (k := 2) hv (by omega) (fun j hj => by unfold hc5; rw [upd_other _ _ hj]) (by unfold hc5; rw [upd_same]; rfl)
theorem UB.cset (h : UB w base bb gB cB gH cH al nh s lk ix hs pv dv now D) {v : Nat} (hv : v < nh) (a : Nat) : UB (w.setCell ⟨gH, v * 5 + 3, none⟩ (I a)) base bb gB cB gH cH al nh s lk ix (upd hs v { hs v with c := a }) pv dv now D :=
  h.hset (k := 3) hv (by omega) (fun j hj => by unfold hc5; rw [upd_other _ _ hj]) (by unfold hc5; rw [upd_same]; rfl)
theorem UB.iset (h : UB w base bb gB cB gH cH al nh s lk ix hs pv dv now D) {v : Nat} (hv : v < nh) (b : Bool) : UB (w.setCell ⟨gH, v * 5 + 4, none⟩ (.bool b)) base bb gB cB gH cH al nh s lk ix (upd hs v { hs v with is_ := b }) pv dv now D :=
  h.hset (k := 4) hv (by omega) (fun j hj => by unfold hc5; rw [upd_other _ _ hj]) (by unfold hc5; rw [upd_same]; rfl)
theorem UB.xset (h : UB w base bb gB cB gH cH al nh s lk ix hs pv dv now D) {v : Nat} (hv : v < nh) (a : Nat) : UB (w.setCell ⟨gH, v * 5, none⟩ (I a)) base bb gB cB gH cH al nh s lk (upd ix v a) hs pv dv now D :=
  h.hset (k := 0) hv (by omega) (fun j hj => by unfold hc5; rw [upd_other _ _ hj]) (by unfold hc5; rw [upd_same]; rfl)
theorem UB.nset (h : UB w base bb gB cB gH cH al nh s lk ix hs pv dv now D) (n : Nat) : UB (w.setCell ⟨bb, 4, none⟩ (I n)) base bb gB cB gH cH al nh s lk ix hs pv dv n D :=
  ⟨jset_at h.box, h.bge, urow_far h.beads h.box (by decide) _, urow_far h.hands h.box (by decide) _, urow_far h.done h.box (by decide) _⟩
theorem flatB_ins {s s' : Bs} {lk : Nat → Bool} (hsz : s'.sz = s.sz + 1) (ho : ∀ j, j < s.sz → bc4 s' lk j = bc4 s lk j) : flatB s' lk = flatB s lk ++ bc4 s' lk s.sz := by
  unfold flatB
  rw [hsz, List.range_succ, List.flatMap_append, rf_congr s.sz ho]
  simp
theorem upd_id {α : Type} (f : Nat → α) (i : Nat) : upd f i (f i) = f := by
  funext j
  unfold upd
  split
  · rename_i e; rw [e]
  · rfl
end
end Go.Proofs.Ytfmdpmebllepeaa

/-
  hedgref's Bench: again, on, free, clean.
-/
namespace Go.Proofs.Ytfmdpmebllepeaa
open Go.RowKit

structure UF (base : Nat) (w w' : World) : Prop where
  kp : ∀ (g : Nat) (cs : Array Value) (t : Nat) (f : Nat × Nat), w.heap[g]? = some (Obj.cells cs t f) → t ≠ 56 → t ≠ 81 → t ≠ 59 → t ≠ 37 → w'.heap[g]? = some (Obj.cells cs t f)
  bl : Below base w w'
theorem UF.refl (base : Nat) (w : World) : UF base w w := ⟨fun _ _ _ _ h _ _ _ _ => h, Below.refl _ _⟩
theorem UF.trans {base : Nat} {w w1 w2 : World} (h : UF base w w1) (h2 : UF base w1 w2) : UF base w w2 := ⟨fun g cs t f a b c d e => h2.kp g cs t f (h.kp g cs t f a b c d e) b c d e, h.bl.trans h2.bl⟩
theorem UF.drew {base : Nat} {w w1 : World} (h : UF base w w1) : UF base w w1.drew := ⟨h.kp, h.bl.drew⟩
theorem UF.drewN {base : Nat} {w w1 : World} (h : UF base w w1) (n : Nat) : UF base w (w1.drewN n) := ⟨h.kp, below_drewN h.bl n⟩
theorem UF.alloc {base : Nat} {w w1 : World} (h : UF base w w1) (hb : base ≤ w1.heap.size) (o : Obj) : UF base w (w1.alloc o) :=
  ⟨fun g cs t f a b c d e => by have := h.kp g cs t f a b c d e; rw [Below.heap_alloc _ _ _ (jblk this)]; exact this, h.bl.alloc hb o⟩
theorem UF.setCell {base : Nat} {w : World} {g k : Nat} {C : Array Value} {t : Nat} (hg : w.heap[g]? = some (.cells C t (0, 0))) (hb : base ≤ g) (ht : t = 56 ∨ t = 81 ∨ t = 59 ∨ t = 37) (u : Value) : UF base w (w.setCell ⟨g, k, none⟩ u) :=
  ⟨fun g' cs t' f a b c d e => by
    rw [Below.heap_setCell _ _ _ _ (fun e2 => by
      have e3 : g' = g := e2
      rw [e3, hg] at a
      injection a with a
      injection a with _ a _
      subst a
      rcases ht with h | h | h | h
      · exact b h
      · exact c h
      · exact d h
      · exact e h)]
    exact a, (Below.refl _ _).setCell (p := ⟨g, k, none⟩) hb u⟩
theorem UF.cell {base : Nat} {w w1 : World} (h : UF base w w1) {g i t : Nat} {cs : Array Value} {f : Nat × Nat} (hg : w.heap[g]? = some (Obj.cells cs t f)) (b : t ≠ 56) (c : t ≠ 81) (d : t ≠ 59) (e : t ≠ 37) : w1.cell? ⟨g, i, none⟩ = w.cell? ⟨g, i, none⟩ :=
  World.cell?_of_block ((h.kp g cs t f hg b c d e).trans hg.symm)
section
variable {w : World} {base bb gB cB gH cH al nh : Nat} {s : Bs} {lk : Nat → Bool} {ix : Nat → Nat} {hs : Nat → Hd} {pv dv : Value} {now : Nat} {D : List Dn}
theorem UB.drew (h : UB w base bb gB cB gH cH al nh s lk ix hs pv dv now D) : UB w.drew base bb gB cB gH cH al nh s lk ix hs pv dv now D := ⟨h.box, h.bge, h.beads, h.hands, h.done⟩
theorem UB.drewN (h : UB w base bb gB cB gH cH al nh s lk ix hs pv dv now D) (n : Nat) : UB (w.drewN n) base bb gB cB gH cH al nh s lk ix hs pv dv now D := ⟨h.box, h.bge, h.beads, h.hands, h.done⟩
theorem UB.bgH (h : UB w base bb gB cB gH cH al nh s lk ix hs pv dv now D) : base ≤ gH := by
  obtain ⟨_, _, h1⟩ := h.hblk
  exact h1
theorem UB.ufB (h : UB w base bb gB cB gH cH al nh s lk ix hs pv dv now D) (k : Nat) (u : Value) : UF base w (w.setCell ⟨gB, k, none⟩ u) := by
  obtain ⟨_, h1, h2⟩ := h.bblk
  exact UF.setCell h1 h2 (.inl rfl) u
theorem UB.ufH (h : UB w base bb gB cB gH cH al nh s lk ix hs pv dv now D) (k : Nat) (u : Value) : UF base w (w.setCell ⟨gH, k, none⟩ u) := by
  obtain ⟨_, h1, h2⟩ := h.hblk
  exact UF.setCell h1 h2 (.inr (.inl rfl)) u
theorem UB.ufb (h : UB w base bb gB cB gH cH al nh s lk ix hs pv dv now D) (k : Nat) (u : Value) : UF base w (w.setCell ⟨bb, k, none⟩ u) :=
  UF.setCell h.box h.bge (.inr (.inr (.inl rfl))) u
theorem UB.hs_eq {hs' : Nat → Hd} (h : UB w base bb gB cB gH cH al nh s lk ix hs pv dv now D) (e : hs = hs') : UB w base bb gB cB gH cH al nh s lk ix hs' pv dv now D := e ▸ h
theorem UB.all_eq {s' : Bs} {lk' : Nat → Bool} {hs' : Nat → Hd} (h : UB w base bb gB cB gH cH al nh s lk ix hs pv dv now D) (e1 : s = s') (e2 : lk = lk') (e3 : hs = hs') : UB w base bb gB cB gH cH al nh s' lk' ix hs' pv dv now D := by
  subst e1 e2 e3
  exact h
set_option maxRecDepth 100000 in
set_option maxHeartbeats 4000000 in
theorem uagain_any {v : Nat} (h : UB w base bb gB cB gH cH al nh s lk ix hs pv dv now D) (hv : v < nh) (h0 : 0 < s.sz) (h0t : 0 ≠ s.tl) :
    Calls Try.prog 73 #[jp bb, .pointer (some ⟨gH, v * 5, none⟩)] w fun e w' => e = .returned (.tuple #[]) ∧ UB w' base bb gB cB gH cH al nh s lk ix (upd hs v ⟨1, 0, s.nx 0, (hs v).is_⟩) pv dv now D ∧ UF base w w' := by
  have H := Lib.hid h
  have HG := Lib.hid h.bgH
  obtain ⟨-, b1, -⟩ := h.fb
  obtain ⟨-, x1, -⟩ := h.bd h0
  rw [nxI_ne h0t] at x1
  have x1' : w.cell? ⟨gB, 1, none⟩ = some (I (s.nx 0)) := by simpa using x1
  obtain ⟨y0, y1, y2, y3, y4, yf⟩ := h.hd hv
  have h1 := ((h.pset hv 0).cset hv (s.nx 0)).aset hv 1
  have HU := Lib.hid h1
  have z1 := ((h.pset hv 0).hd hv).2.2.2.2.2
  have z2 := (((h.pset hv 0).cset hv (s.nx 0)).hd hv).2.2.2.2.2
  have hsz : (0 : Int) < (s.sz : Int) := by omega
  clear h h1 x1
  go_enter Try.func73, Try.ntmps73
  go_wp2
  go_end0
  refine ⟨rfl, HU.out.hs_eq ?_, ((H.out.ufH _ _).trans ((H.out.pset hv 0).ufH _ _)).trans (((H.out.pset hv 0).cset hv (s.nx 0)).ufH _ _)⟩
  simp [upd_upd, upd_same]
set_option maxRecDepth 100000 in
set_option maxHeartbeats 4000000 in
theorem uon_any {v p c : Nat} (h : UB w base bb gB cB gH cH al nh s lk ix hs pv dv now D) (hv : v < nh) (hc : (hs v).c = c) (hcs : c < s.sz) (hct : c ≠ s.tl) :
    Calls Try.prog 74 #[jp bb, .pointer (some ⟨gH, v * 5, none⟩)] w fun e w' => e = .returned (.tuple #[]) ∧ UB w' base bb gB cB gH cH al nh s lk ix (upd hs v { hs v with p := c, c := s.nx c }) pv dv now D ∧ UF base w w' := by
  have H := Lib.hid h
  have HG := Lib.hid h.bgH
  obtain ⟨-, b1, -⟩ := h.fb
  obtain ⟨-, x1, -⟩ := h.bd hcs
  rw [nxI_ne hct] at x1
  obtain ⟨y0, y1, y2, y3, y4, yf⟩ := h.hd hv
  rw [hc] at y3
  have h1 := (h.pset hv c).cset hv (s.nx c)
  have HU := Lib.hid h1
  have z1 := ((h.pset hv c).hd hv).2.2.2.2.2
  have hsz : (c : Int) < (s.sz : Int) := by omega
  have hc0 : (0 : Int) ≤ (c : Int) := by omega
  clear h h1 hc
  go_enter Try.func74, Try.ntmps74
  go_wp2
  go_region
  all_goals go_wp2
  all_goals go_end0
  all_goals refine ⟨rfl, (HU.out.drew).hs_eq ?_, ((H.out.ufH _ _).trans ((H.out.pset hv c).ufH _ _)).drew⟩
  all_goals simp [upd_upd, upd_same]
set_option maxRecDepth 100000 in
set_option maxHeartbeats 4000000 in
theorem ufree_any {v p c : Nat} (h : UB w base bb gB cB gH cH al nh s lk ix hs pv dv now D) (hv : v < nh) (hp : (hs v).p = p) (hc : (hs v).c = c) (hps : p < s.sz) (hcs : c < s.sz) :
    Calls Try.prog 75 #[jp bb, .pointer (some ⟨gH, v * 5, none⟩)] w fun e w' => e = .returned (.tuple #[]) ∧ UB w' base bb gB cB gH cH al nh s (fre lk (hs v)) ix hs pv dv now D ∧ UF base w w' := by
  have H := Lib.hid h
  obtain ⟨-, b1, -⟩ := h.fb
  obtain ⟨-, -, -, xp, xpf⟩ := h.bd hps
  obtain ⟨-, -, -, xc, xcf⟩ := h.bd hcs
  obtain ⟨y0, y1, y2, y3, y4, yf⟩ := h.hd hv
  rw [hp] at y2
  rw [hc] at y3
  have h1 := (h.lkset hps false).lkset hcs false
  have HU : Hid (UB ((w.setCell ⟨gB, p * 4 + 3, none⟩ (.bool false)).setCell ⟨gB, c * 4 + 3, none⟩ (.bool false)) base bb gB cB gH cH al nh s (fre lk (hs v)) ix hs pv dv now D) := by
    unfold fre
    rw [hp, hc]
    exact h1
  obtain ⟨-, -, -, zc, zcf⟩ := (h.lkset hps false).bd hcs
  have hsz : (c : Int) < (s.sz : Int) := by omega
  have hc0 : (0 : Int) ≤ (c : Int) := by omega
  have hszp : (p : Int) < (s.sz : Int) := by omega
  have hp0 : (0 : Int) ≤ (p : Int) := by omega
  clear h h1 hc hp
  go_enter Try.func75, Try.ntmps75
  go_wp2
  go_region
  all_goals go_wp2
  all_goals go_end0
  all_goals exact ⟨rfl, HU.out.drew, ((H.out.ufB _ _).trans ((H.out.lkset hps false).ufB _ _)).drew⟩
set_option maxRecDepth 100000 in
set_option maxHeartbeats 4000000 in
theorem uclean_any {v p c : Nat} (h : UB w base bb gB cB gH cH al nh s lk ix hs pv dv now D) (hv : v < nh) (hp : (hs v).p = p) (hc : (hs v).c = c) (hps : p < s.sz) (hpt : p ≠ s.tl) {b : Bool} (hb : decide (s.mrk p = false ∧ s.nx p = c) = b) :
    Calls Try.prog 77 #[jp bb, .pointer (some ⟨gH, v * 5, none⟩)] w fun e w' => e = .returned (.bool b) ∧ ∃ m, w' = w.drewN m := by
  obtain ⟨-, b1, -⟩ := h.fb
  obtain ⟨-, x1, x2, -, -⟩ := h.bd hps
  rw [nxI_ne hpt] at x1
  obtain ⟨y0, y1, y2, y3, y4, yf⟩ := h.hd hv
  rw [hp] at y2
  rw [hc] at y3
  have hszp : (p : Int) < (s.sz : Int) := by omega
  have hp0 : (0 : Int) ≤ (p : Int) := by omega
  obtain ⟨nx, hnx⟩ : ∃ x, s.nx p = x := ⟨_, rfl⟩
  rw [hnx] at x1 hb
  cases hm : s.mrk p with
  | true =>
    rw [hm] at x2 hb
    obtain rfl : b = false := by rw [← hb]; simp
    clear h hb hm hc hp hnx
    go_enter Try.func77, Try.ntmps77
    go_wp2
    go_quiet (fail)
    go_wp2
    go_ret
    exact ⟨rfl, _, rfl⟩
  | false =>
    rw [hm] at x2 hb
    have hbe : ((nx : Int) == (c : Int)) = b := by
      rw [← hb, Bool.eq_iff_iff]
      simp
      omega
    clear h hb hm hc hp hnx
    cases b with
    | true =>
      go_enter Try.func77, Try.ntmps77
      go_wp2
      go_quiet (fail)
      go_wp2
      go_ret
      exact ⟨rfl, _, rfl⟩
    | false =>
      go_enter Try.func77, Try.ntmps77
      go_wp2
      go_quiet (fail)
      go_wp2
      go_ret
      exact ⟨rfl, _, rfl⟩
end
end Go.Proofs.Ytfmdpmebllepeaa

/-
  hedgref's Bench: insert.
-/
namespace Go.Proofs.Ytfmdpmebllepeaa
open Go.RowKit

theorem bead_info : (Try.prog.info? 56).map (fun i => (i.zero, i.size, i.bytes)) = some (some (.agg #[I 0, I 0, .bool false, .bool false]), 4, 24) := by kernel_rfl
theorem uinfo_parts {P : Program} {e : TypeId} {z : Value} {s b : Nat} (h : (P.info? e).map (fun i => (i.zero, i.size, i.bytes)) = some (some z, s, b)) : ∃ i, P.info? e = some i ∧ i.zero = some z ∧ i.size = s ∧ i.bytes = b := by
  cases hi : P.info? e with
  | none => rw [hi] at h; cases h
  | some i =>
    rw [hi] at h
    simp only [Option.map_some, Option.some.injEq, Prod.mk.injEq] at h
    exact ⟨i, rfl, h.1, h.2.1, h.2.2⟩
abbrev newB (K : Int) (c : Nat) : Obj := .cells #[I K, I c, .bool false, .bool false] 56
def Bs.more (s : Bs) (c : Nat) (K : Int) : Bs := { s with key := upd s.key s.sz K, nx := upd s.nx s.sz c, mrk := upd s.mrk s.sz false, sz := s.sz + 1 }
theorem flatB_more {s : Bs} {lk : Nat → Bool} {c : Nat} {K : Int} (ht : s.tl < s.sz) (hl : lk s.sz = false) : flatB (s.more c K) lk = flatB s lk ++ [I K, I c, .bool false, .bool false] := by
  rw [flatB_ins (s := s) (s' := s.more c K) rfl (fun j hj => ?_)]
  · congr 1
    show [I (upd s.key s.sz K s.sz), I (if s.sz = s.tl then -1 else ((upd s.nx s.sz c s.sz : Nat) : Int)), .bool (upd s.mrk s.sz false s.sz), .bool (lk s.sz)] = _
    rw [upd_same, upd_same, upd_same, hl, if_neg (by omega)]
  · show [I (upd s.key s.sz K j), I (if j = s.tl then -1 else ((upd s.nx s.sz c j : Nat) : Int)), .bool (upd s.mrk s.sz false j), .bool (lk j)] = _
    rw [upd_other _ _ (by omega), upd_other _ _ (by omega), upd_other _ _ (by omega)]
    rfl
section
variable {w w5 : World} {base bb gB cB gH cH al nh : Nat} {s : Bs} {lk : Nat → Bool} {ix : Nat → Nat} {hs : Nat → Hd} {pv dv : Value} {now : Nat} {D : List Dn}
theorem UB.bbase (h : UB w base bb gB cB gH cH al nh s lk ix hs pv dv now D) : base ≤ w.heap.size := Nat.le_of_lt (Nat.lt_of_le_of_lt h.bge (jblk h.box))
theorem UB.grown {o : Obj} {v5 : Value} (h : UB w base bb gB cB gH cH al nh s lk ix hs pv dv now D) (hg : (w.drew.alloc o).grownBy w5 (some gB)) :
    w5.heap[bb]? = some (.cells #[I al, .slice (some ⟨gB, 0, none⟩) s.sz cB, .slice (some ⟨gH, 0, none⟩) nh cH, pv, I now, dv] 59 (0, 0)) ∧ w5.ownsRow base 81 5 (.slice (some ⟨gH, 0, none⟩) nh cH) nh (flatH nh ix hs) ∧ OwnD w5 base dv D ∧ UF base w w5 := by
  obtain ⟨C, hC, hge⟩ := h.bblk
  have hkeep : ∀ {g : Nat} {C' : Array Value} {t : Nat}, w.heap[g]? = some (.cells C' t (0, 0)) → t ≠ 56 → w5.heap[g]? = w.heap[g]? := fun {g C' t} h1 h2 => by
    have h3 : (w.drew.alloc o).heap[g]? = w.heap[g]? := Below.heap_alloc _ _ _ (by exact jblk h1)
    rw [hg.block g (by rw [World.size_alloc]; exact Nat.lt_succ_of_lt (jblk h1)) (fun e => ublk_ne h1 hC h2 (Option.some.inj e)), h3]
  refine ⟨(hkeep h.box (by decide)).trans h.box, urow_keep h.hands fun g hgg => ?_, urow_keep h.done fun g hgg => ?_, ?_⟩
  · obtain ⟨C', h1, _⟩ := urow_blk h.hands hgg
    exact hkeep h1 (by decide)
  · obtain ⟨C', h1, _⟩ := urow_blk h.done hgg
    exact hkeep h1 (by decide)
  · refine ⟨fun g cs t f a b _ _ _ => ?_, ((((Below.refl base w).drew).alloc (by exact h.bbase) o)).grown hg (by rw [World.size_alloc]; exact Nat.le_succ_of_le h.bbase) (fun k e => by rw [← Option.some.inj e]; exact hge)⟩
    have h3 : (w.drew.alloc o).heap[g]? = w.heap[g]? := Below.heap_alloc _ _ _ (by exact jblk a)
    rw [hg.block g (by rw [World.size_alloc]; exact Nat.lt_succ_of_lt (jblk a)) (fun e => by
      rw [Option.some.inj e, hC] at a
      injection a with a
      injection a with _ a _
      exact b a.symm), h3]
    exact a
theorem UB.inserted {K : Int} {c g5 cap5 : Nat} (h : UB w base bb gB cB gH cH al nh s lk ix hs pv dv now D) (ht : s.tl < s.sz) (hl : lk s.sz = false) (hg : (w.drew.alloc (newB K c)).grownBy w5 (some gB))
    (hown : w5.ownsRow base 56 4 (.slice (some ⟨g5, 0, none⟩) (s.sz + 1) cap5) (s.sz + 1) (flatB s lk ++ [I K, I c, .bool false, .bool false])) :
    UB (w5.setCell ⟨bb, 1, none⟩ (.slice (some ⟨g5, 0, none⟩) (s.sz + 1) cap5)) base bb g5 cap5 gH cH al nh (s.more c K) lk ix hs pv dv now D ∧ UF base w (w5.setCell ⟨bb, 1, none⟩ (.slice (some ⟨g5, 0, none⟩) (s.sz + 1) cap5)) := by
  obtain ⟨h1, h2, h3, h4⟩ := h.grown hg (v5 := .nilFunc)
  rw [← flatB_more ht hl] at hown
  exact ⟨⟨jset_at h1, h.bge, urow_far hown h1 (by decide) _, urow_far h2 h1 (by decide) _, urow_far h3 h1 (by decide) _⟩, h4.trans (UF.setCell h1 h.bge (.inr (.inr (.inl rfl))) _)⟩
set_option maxRecDepth 100000 in
set_option maxHeartbeats 8000000 in
theorem uinsert_any {v p c : Nat} {K : Int} (h : UB w base bb gB cB gH cH al nh s lk ix hs pv dv now D) (hv : v < nh) (hp : (hs v).p = p) (hc : (hs v).c = c) (hps : p < s.sz) (hpt : p ≠ s.tl) (ht : s.tl < s.sz) (hl : lk s.sz = false) (hz : s.sz ≤ 10000) :
    Calls Try.prog 76 #[jp bb, .pointer (some ⟨gH, v * 5, none⟩), I K] w fun e w' => e = .returned (.tuple #[]) ∧ (∃ gB' cB', UB w' base bb gB' cB' gH cH al nh (s.insc p c K) lk ix hs pv dv now D) ∧ UF base w w' := by
  have H := Lib.hid h
  obtain ⟨b0, b1, b2, b3, b4, b5, bf⟩ := h.fb
  obtain ⟨y0, y1, y2, y3, y4, yf⟩ := h.hd hv
  rw [hp] at y2
  rw [hc] at y3
  obtain ⟨i0, hi, hz0, hz1, hz2⟩ := uinfo_parts bead_info
  have HI := Lib.hid hi
  have HZ0 := Lib.hid hz0
  have HZ1 := Lib.hid hz1
  have HZ2 := Lib.hid hz2
  have hbz := h.bbase
  have HNB : Hid (UB (w.drew.alloc (newB K c)) base bb gB cB gH cH al nh s lk ix hs pv dv now D) := h.drew.keep ((Below.refl _ _).alloc (Nat.le_refl _) _)
  have HNEW : Hid (∀ j u, [I K, I (c : Int), .bool false, .bool false][j]? = some u → (w.drew.alloc (newB K c)).cell? ((⟨w.heap.size, 0, none⟩ : Addr).add j) = some u) := fun j u hu => by
    have : (w.drew.alloc (newB K c)).cell? ⟨w.drew.heap.size, j, none⟩ = _ := World.cell?_alloc_mark w.drew #[I K, I c, .bool false, .bool false] 56 (0, 0) j
    rw [show ((⟨w.heap.size, 0, none⟩ : Addr).add j) = ⟨w.drew.heap.size, j, none⟩ by simp [Addr.add] <;> omega, this]
    simpa using hu
  have b1a : (w.alloc (.cells #[I K, I c, .bool false, .bool false] 56)).cell? ⟨bb, 1, none⟩ = some (.slice (some ⟨gB, 0, none⟩) s.sz cB) := HNB.out.fb.2.1
  have y3a : (w.alloc (.cells #[I K, I c, .bool false, .bool false] 56)).cell? ⟨gH, v * 5 + 3, none⟩ = some (I c) := by
    have h9 := (HNB.out.hd hv).2.2.2.1
    rw [hc] at h9
    exact h9
  have hp0 : (0 : Int) ≤ (p : Int) := by omega
  have hpz : (p : Int) < (s.sz : Int) + 1 := by omega
  have HH := Lib.hid (And.intro hp (And.intro hps (And.intro hpt (And.intro ht hl))))
  clear h hi hz0 hz1 hz2 hp hc hps hpt ht hl
  go_enter Try.func76, Try.ntmps76
  go_wp2_with fail
  go_region_law
    (refine step_append_lies _ rfl (.tmp 10) (.tmp 17) 57 rfl base 56 i0 _ 4 24 Try.underlying57 HI.out HZ0.out HZ1.out HZ2.out rfl (by omega) (.slice (some ⟨gB, 0, none⟩) s.sz cB) s.sz (flatB s lk) rfl HNB.out.beads ⟨w.heap.size, 0, none⟩ 1 1 [I K, I c, .bool false, .bool false] rfl rfl HNEW.out (by intro u hu; simp at hu; rcases hu with rfl | rfl | rfl | rfl <;> rfl) (by omega) (by unfold maxLen; omega) (by omega) (by simp; omega) (w.heap.size + 1) (by simp) ?_
     intro g5 cap5 w5 hown5 hgrow5 hat5 hlt5
     obtain ⟨q1, -, -, -⟩ := H.out.grown (v5 := .nilFunc) hgrow5
     have c15 : w5.cell? ⟨bb, 1, none⟩ = some (.slice (some ⟨gB, 0, none⟩) s.sz cB) := by rw [jcell q1]; rfl
     have f15 : w5.frozen? ⟨bb, 1, none⟩ = false := jfroz q1
     have HU5 := Lib.hid (H.out.inserted HH.out.2.2.2.1 HH.out.2.2.2.2 hgrow5 hown5)
     clear hown5 hgrow5 hat5 q1)
  all_goals
    (obtain ⟨hu5, hb5⟩ := HU5.out
     obtain ⟨W, hW⟩ : ∃ W, w5.setCell ⟨bb, 1, none⟩ (.slice (some ⟨g5, 0, none⟩) (s.sz + 1) cap5) = W := ⟨_, rfl⟩
     rw [hW] at hu5 hb5 ⊢
     have HB5 := Lib.hid hb5
     obtain ⟨d0, d1, d2, d3, d4, d5, df⟩ := hu5.fb
     have d1' : W.cell? ⟨bb, 1, none⟩ = some (.slice (some ⟨g5, 0, none⟩) (s.sz + 1) cap5) := d1
     obtain ⟨z0, z1, z2, z3, z4, zf⟩ := hu5.hd hv
     rw [HH.out.1] at z2
     obtain ⟨-, e1, -, -, ef⟩ := hu5.bd (i := p) (by show p < s.sz + 1; omega)
     have HN5 := Lib.hid (hu5.nxset (i := p) (by show p < s.sz + 1; omega) HH.out.2.2.1 s.sz)
     have HGB := Lib.hid (hu5.ufB (p * 4 + 1) (I s.sz))
     clear hu5 hb5 hW c15 f15 d1 b1 b1a y3a HNEW HNB HU5
     go_wp2_with fail
     go_region
     all_goals go_wp2
     all_goals go_end0
     all_goals exact ⟨rfl, ⟨g5, cap5, HN5.out.drew⟩, (HB5.out.trans HGB.out).drew⟩)
end
end Go.Proofs.Ytfmdpmebllepeaa

/-
  hedgref's Bench: what a step of a hand answers. Written by tools/gen_ubench.py.
-/
namespace Go.Proofs.Ytfmdpmebllepeaa
open Go.RowKit

def RetH (base bb gH cH al nh : Nat) (ix : Nat → Nat) (hs : Nat → Hd) (pv dv : Value) (now : Nat) (D : List Dn) (v : Nat) (r : Rel) (w : World) (e : Ending) (w' : World) : Prop :=
  e = .returned (.bool r.over) ∧ (∃ gB' cB', UB w' base bb gB' cB' gH cH al nh r.s r.lk ix (upd hs v r.h) pv dv now D) ∧ UF base w w'
theorem fre_sz {lk : Nat → Bool} {p c n : Nat} (hp : p < n) (hc : c < n) (hl : lk n = false) (a : Nat) (i : Bool) : fre lk ⟨a, p, c, i⟩ n = false := by
  unfold fre
  rw [upd_other _ _ (by show n ≠ c; omega), upd_other _ _ (by show n ≠ p; omega)]
  exact hl
end Go.Proofs.Ytfmdpmebllepeaa

/-
  hedgref's Bench: what is told, in its row; hands made anew; beads one behind the other.
-/
namespace Go.Proofs.Ytfmdpmebllepeaa
open Go.RowKit

theorem flatD_set (X Y : List Dn) (d d' : Dn) {k : Nat} {u : Value} (hk : k < 5) (he : dcells d' = (dcells d).set k u) : (flatD (X ++ d :: Y)).set (X.length * 5 + k) u = flatD (X ++ d' :: Y) := by
  rw [flatD_append, flatD_append]
  have h1 : flatD (d :: Y) = dcells d ++ flatD Y := rfl
  have h2 : flatD (d' :: Y) = dcells d' ++ flatD Y := rfl
  rw [h1, h2, List.set_append_right _ _ (by rw [flatD_length]; omega), flatD_length, Nat.add_sub_cancel_left, List.set_append_left _ _ (by show k < 5; exact hk), he]
section
variable {w w5 : World} {base bb gB cB gH cH al nh : Nat} {s : Bs} {lk : Nat → Bool} {ix : Nat → Nat} {hs : Nat → Hd} {pv dv : Value} {now : Nat} {D X Y : List Dn} {d d' : Dn} {gd nd cd : Nat}
theorem UB.dn (h : UB w base bb gB cB gH cH al nh s lk ix hs pv (.slice (some ⟨gd, 0, none⟩) nd cd) now D) : nd = D.length ∧ ∃ C, w.heap[gd]? = some (.cells C 37 (0, 0)) ∧ base ≤ gd := by
  obtain ⟨C, h1, h2⟩ := urow_blk h.done (g := gd) rfl
  refine ⟨?_, C, h1, h2⟩
  rcases h.done.2 with ⟨h0, _⟩ | ⟨_, _, _, h0, _⟩ <;> cases h0
  rfl
theorem UB.dcell (h : UB w base bb gB cB gH cH al nh s lk ix hs pv (.slice (some ⟨gd, 0, none⟩) nd cd) now (X ++ d :: Y)) {k : Nat} (hk : k < 5) : w.cell? ⟨gd, X.length * 5 + k, none⟩ = (dcells d)[k]? := by
  obtain ⟨rfl, _⟩ := h.dn
  have hl : X.length < (X ++ d :: Y).length := by simp
  have h1 : X.length * 5 + k < (flatD (X ++ d :: Y)).length := by rw [flatD_length]; omega
  rw [urow_cell h.done h1, flatD_at _ _ _ hl hk]
  simp
theorem UB.dset (h : UB w base bb gB cB gH cH al nh s lk ix hs pv (.slice (some ⟨gd, 0, none⟩) nd cd) now (X ++ d :: Y)) {k : Nat} {u : Value} (hk : k < 5) (he : dcells d' = (dcells d).set k u) :
    UB (w.setCell ⟨gd, X.length * 5 + k, none⟩ u) base bb gB cB gH cH al nh s lk ix hs pv (.slice (some ⟨gd, 0, none⟩) nd cd) now (X ++ d' :: Y) := by
  obtain ⟨hn, C, hC, hge⟩ := h.dn
  refine ⟨(Below.heap_setCell _ _ _ _ (ublk_ne h.box hC (by decide))).trans h.box, h.bge, urow_far h.beads hC (by decide) u, urow_far h.hands hC (by decide) u, ?_⟩
  have hd := h.done
  unfold OwnD at hd ⊢
  rw [← hn] at hd
  have := urow_set hd (X.length * 5 + k) u
  rw [flatD_set X Y d d' hk he] at this
  rw [show (X ++ d' :: Y).length = nd by rw [hn]; simp]
  exact this
theorem UB.ufD (h : UB w base bb gB cB gH cH al nh s lk ix hs pv (.slice (some ⟨gd, 0, none⟩) nd cd) now D) (k : Nat) (u : Value) : UF base w (w.setCell ⟨gd, k, none⟩ u) := by
  obtain ⟨_, C, hC, hge⟩ := h.dn
  exact UF.setCell hC hge (.inr (.inr (.inr rfl))) u
theorem UB.dgrown {o : Obj} (h : UB w base bb gB cB gH cH al nh s lk ix hs pv dv now D) (hg : (w.drew.alloc o).grownBy w5 dv.ownBlock) :
    w5.heap[bb]? = some (.cells #[I al, .slice (some ⟨gB, 0, none⟩) s.sz cB, .slice (some ⟨gH, 0, none⟩) nh cH, pv, I now, dv] 59 (0, 0)) ∧ w5.ownsRow base 56 4 (.slice (some ⟨gB, 0, none⟩) s.sz cB) s.sz (flatB s lk) ∧ w5.ownsRow base 81 5 (.slice (some ⟨gH, 0, none⟩) nh cH) nh (flatH nh ix hs) ∧ UF base w w5 := by
  have hrow : ∀ g, dv.ownBlock = some g → ∃ C, w.heap[g]? = some (.cells C 37 (0, 0)) ∧ base ≤ g := fun g hg => urow_blk h.done hg
  have hkeep : ∀ {g : Nat} {C' : Array Value} {t : Nat} {fr : Nat × Nat}, w.heap[g]? = some (.cells C' t fr) → t ≠ 37 → w5.heap[g]? = w.heap[g]? := fun {g C' t fr} h1 h2 => by
    have h3 : (w.drew.alloc o).heap[g]? = w.heap[g]? := Below.heap_alloc _ _ _ (by exact jblk h1)
    rw [hg.block g (by rw [World.size_alloc]; exact Nat.lt_succ_of_lt (jblk h1)) (fun e => by
      obtain ⟨C, hC, _⟩ := hrow g e.symm
      rw [h1] at hC
      injection hC with hC
      injection hC with _ hC
      exact h2 hC), h3]
  refine ⟨(hkeep h.box (by decide)).trans h.box, urow_keep h.beads fun g hgg => ?_, urow_keep h.hands fun g hgg => ?_, ?_⟩
  · obtain ⟨C', h1, _⟩ := urow_blk h.beads hgg
    exact hkeep h1 (by decide)
  · obtain ⟨C', h1, _⟩ := urow_blk h.hands hgg
    exact hkeep h1 (by decide)
  · exact ⟨fun g cs t f a _ _ _ b => (hkeep a b).trans a, ((((Below.refl base w).drew).alloc (by exact h.bbase) o)).grown hg (by rw [World.size_alloc]; exact Nat.le_succ_of_le h.bbase) (fun k e => by obtain ⟨_, _, h9⟩ := hrow k e; exact h9)⟩
theorem UB.begun {o : Obj} {g5 cap5 : Nat} (h : UB w base bb gB cB gH cH al nh s lk ix hs pv dv now D) (hg : (w.drew.alloc o).grownBy w5 dv.ownBlock)
    (hown : w5.ownsRow base 37 5 (.slice (some ⟨g5, 0, none⟩) (D.length + 1) cap5) (D.length + 1) (flatD D ++ dcells d)) :
    UB (w5.setCell ⟨bb, 5, none⟩ (.slice (some ⟨g5, 0, none⟩) (D.length + 1) cap5)) base bb gB cB gH cH al nh s lk ix hs pv (.slice (some ⟨g5, 0, none⟩) (D.length + 1) cap5) now (D ++ [d]) ∧ UF base w (w5.setCell ⟨bb, 5, none⟩ (.slice (some ⟨g5, 0, none⟩) (D.length + 1) cap5)) := by
  obtain ⟨h1, h2, h3, h4⟩ := h.dgrown hg
  have hD : OwnD w5 base (.slice (some ⟨g5, 0, none⟩) (D.length + 1) cap5) (D ++ [d]) := by
    unfold OwnD
    rw [flatD_append, List.length_append]
    rw [show flatD [d] = dcells d by simp [flatD]]
    exact hown
  exact ⟨⟨jset_at h1, h.bge, urow_far h2 h1 (by decide) _, urow_far h3 h1 (by decide) _, urow_far hD h1 (by decide) _⟩, h4.trans (UF.setCell h1 h.bge (.inr (.inr (.inl rfl))) _)⟩
end
theorem UF.below {base : Nat} {w w' : World} (hz : base ≤ w.heap.size) (h : Below w.heap.size w w') : UF base w w' := ⟨fun g cs t f a _ _ _ _ => (h.block g (jblk a)).trans a, h.mono hz⟩
theorem UF.blk {base : Nat} {w w1 : World} (h : UF base w w1) {g t : Nat} {cs : Array Value} {f : Nat × Nat} (hg : w.heap[g]? = some (Obj.cells cs t f)) (b : t ≠ 56) (c : t ≠ 81) (d : t ≠ 59) (e : t ≠ 37) : w1.heap[g]? = some (Obj.cells cs t f) := h.kp g cs t f hg b c d e
theorem hst_info : (Try.prog.info? 81).map (fun i => (i.zero, i.size, i.bytes)) = some (some (.agg #[I 0, I 0, I 0, I 0, .bool false]), 5, 40) := by kernel_rfl
theorem run_makeS (n : Nat) (hn : n ≤ 1000) (w : World) :
    (Instr.makeSlice 54 (.int .i64 (n : Int)) (.int .i64 (n : Int))).run Try.prog w = .ok (.slice (some ⟨w.heap.size, 0, none⟩) n n) (w.alloc (.cells (madeCells #[I 0, I 0, I 0, I 0, .bool false] (n * 5)) 81)) := by
  obtain ⟨i, h1, hz, hs, hb⟩ := jinfo_parts hst_info
  have := run_make (P := Try.prog) w 54 81 i _ Try.underlying54 h1 hz .i64 .i64 n n (by omega) (by omega) (by rw [hb]; omega) (by omega)
  rw [this, hs]
  simp only [Int.toNat_natCast]
  rfl
theorem made_flatH (n : Nat) : (madeCells #[I 0, I 0, I 0, I 0, .bool false] (n * 5)).toList = flatH n (fun _ => 0) (fun _ => hd0) := by
  apply List.ext_getElem?
  intro k
  by_cases hk : k < n * 5
  · have e : k = (k / 5) * 5 + k % 5 := by omega
    have h5 : k % 5 < 5 := Nat.mod_lt _ (by omega)
    have h6 : k / 5 < n := by omega
    have h1 : k < (madeCells #[I 0, I 0, I 0, I 0, .bool false] (n * 5)).size := by rw [size_madeCells]; exact hk
    have h2 : (flatH n (fun _ => 0) (fun _ => hd0))[k]? = (hc5 (fun _ => 0) (fun _ => hd0) (k / 5))[k % 5]? := by
      have := rf_at (m := 5) (hc5 (fun _ => 0) (fun _ => hd0)) (fun _ => rfl) n h6 h5
      rw [← e] at this
      exact this
    rw [h2, Array.getElem?_toList, Array.getElem?_eq_getElem h1]
    rcases (show k % 5 = 0 ∨ k % 5 = 1 ∨ k % 5 = 2 ∨ k % 5 = 3 ∨ k % 5 = 4 by omega) with q | q | q | q | q <;> simp [madeCells, q, hc5]
  · rw [List.getElem?_eq_none (by rw [Array.length_toList, size_madeCells]; omega), List.getElem?_eq_none (by rw [flatH_len]; omega)]
def stp (l : List Int) (k : Nat) : Bs := { st0 l with sz := k + 1, tl := l.length + 5 }
theorem flatB_stp (l : List Int) (k : Nat) (hk : k ≤ l.length) : flatB (stp l (k + 1)) (fun _ => false) = flatB (stp l k) (fun _ => false) ++ [I ((st0 l).key (k + 1)), I ((k : Int) + 2), .bool false, .bool false] := by
  rw [flatB_ins (s := stp l k) (s' := stp l (k + 1)) rfl (fun j _ => rfl)]
  congr 1
  show [I ((st0 l).key (k + 1)), I (if k + 1 = l.length + 5 then -1 else ((k + 1 + 1 : Nat) : Int)), .bool false, .bool false] = _
  rw [if_neg (by omega)]
  have : ((k + 1 + 1 : Nat) : Int) = (k : Int) + 2 := by omega
  rw [this]
end Go.Proofs.Ytfmdpmebllepeaa
