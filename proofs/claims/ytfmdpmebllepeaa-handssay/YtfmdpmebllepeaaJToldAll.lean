/-
  Joined texts: YtfmdpmebllepeaaJLeft, YtfmdpmebllepeaaJList, YtfmdpmebllepeaaJTold.
-/
import Derived.Test.YtfmdpmebllepeaaUInvAll
import Derived.Test.YtfmdpmebllepeaaInts
import Derived.Test.YtfmdpmebllepeaaUTellAll
import Derived.Test.YtfmdpmebllepeaaSRow
/-
  package hands: left: the keys without a mark, by nexts.
-/
namespace Go.Proofs.Ytfmdpmebllepeaa
open Go.RowKit

structure JLs (w : World) (ad : Nat → Nat) (s : Bs) (lk : Nat → Bool) : Prop where
  bd : ∀ i, i < s.sz → JBead w ad s lk i
theorem JLs.cells {w : World} {ad : Nat → Nat} {s : Bs} {lk : Nat → Bool} (h : JLs w ad s lk) {i : Nat} (hi : i < s.sz) :
    w.cell? ⟨ad i, 0, none⟩ = some (I (s.key i)) ∧ w.cell? ⟨ad i, 1, none⟩ = some (jnx s ad i) ∧ w.cell? ⟨ad i, 2, none⟩ = some (.bool (s.mrk i)) := by
  have := h.bd i hi
  exact ⟨by rw [jcell this]; rfl, by rw [jcell this]; rfl, by rw [jcell this]; rfl⟩
theorem JLs.below {w w' : World} {ad : Nat → Nat} {s : Bs} {lk : Nat → Bool} (h : JLs w ad s lk) (hb : Below w.heap.size w w') : JLs w' ad s lk := ⟨fun i hi => (hb.block _ (jblk (h.bd i hi))).trans (h.bd i hi)⟩
theorem lft_cons_f {s : Bs} {n c : Nat} (h : s.mrk c = false) : lft s (n + 1) c = s.key c :: lft s n (s.nx c) := by show (if s.mrk c = true then _ else _) = _; rw [if_neg (by rw [h]; decide)]
theorem lft_cons_t {s : Bs} {n c : Nat} (h : s.mrk c = true) : lft s (n + 1) c = lft s n (s.nx c) := by show (if s.mrk c = true then _ else _) = _; rw [if_pos h]
def RetK (L : List Int) (w : World) (e : Ending) (w' : World) : Prop := ∃ v, e = .returned v ∧ OwnI w' w.heap.size v L ∧ Below w.heap.size w w'
set_option maxRecDepth 100000 in
set_option maxHeartbeats 4000000 in
theorem left_any {ad : Nat → Nat} {s : Bs} {lk : Nat → Bool} {w : World} {n : Nat} (h : JLs w ad s lk) (h0 : 0 < s.sz) (h0t : 0 ≠ s.tl) (htl : s.tl < s.sz) (hnl : ∀ i, i < s.sz → i ≠ s.tl → s.nx i < s.sz) (hk : s.key s.tl = 10) (hk2 : ∀ i, i < s.sz → i ≠ s.tl → s.key i ≠ 10) (hup : ∀ i, i < s.sz → i ≠ s.tl → s.key i < s.key (s.nx i)) (hkb : ∀ i, i < s.sz → s.key i ≤ 10) (hp : Pn s.nx s.tl (s.nx 0) n) (hn : n ≤ 1000) :
    Calls Try.prog 72 #[jp (ad 0)] w (RetK (lft s n (s.nx 0)) w) := by
  have H := Lib.hid h
  have HNL := Lib.hid hnl
  have HK := Lib.hid hk
  have HK2 := Lib.hid hk2
  have HUP := Lib.hid hup
  have HKB := Lib.hid hkb
  have HT := Lib.hid htl
  have HP := Lib.hid hp
  obtain ⟨-, c1, -⟩ := h.cells h0
  rw [jnx_ne h0t] at c1
  obtain ⟨i0, hi, hz0, hz1, hz2⟩ := jinfo_parts int_info
  have HI := Lib.hid hi
  have HZ0 := Lib.hid hz0
  have HZ1 := Lib.hid hz1
  have HZ2 := Lib.hid hz2
  have HS0 : Hid (s.nx 0 < s.sz) := hnl 0 h0 h0t
  clear h hnl hk hk2 htl hp hup hkb hi hz0 hz1 hz2
  go_enter Try.func72, Try.ntmps72
  go_wp2
  go_loopw [3, 4] (fun kv cv wr => ∃ (c m : Nat) (K : List Int), cv = jp (ad c) ∧ c < s.sz ∧ Pn s.nx s.tl c m ∧ m ≤ n ∧ K.length + m ≤ n ∧ K ++ lft s m c = lft s n (s.nx 0) ∧ OwnI wr w.heap.size kv K ∧ Below w.heap.size w wr) (fun kv cv wr => match cv with | .pointer (some a) => (match wr.cell? ⟨a.block, 0, none⟩ with | some (.int _ x) => (10 - x).toNat | _ => 0) | _ => 0)
  case atStart => exact ⟨s.nx 0, n, [], rfl, HS0.out, HP.out, Nat.le_refl _, by simp, rfl, ⟨rfl, .inl ⟨rfl, rfl⟩⟩, Below.refl _ _⟩
  case round =>
    obtain ⟨c, m, K, rfl, hc, hpc, hmn, hKm, hKe, hown, hbl⟩ := hrel
    have hb0 := (H.out.below hbl).cells hc
    obtain ⟨k0, k1, k2⟩ := hb0
    have HOWN := Lib.hid hown
    have HBL := Lib.hid hbl
    have HKE := Lib.hid hKe
    have hsz := hbl.size
    by_cases e : c = s.tl
    · subst e
      rw [HK.out] at k0
      have hm0 : m = 0 := by cases hpc with | last => rfl | step a _ => exact absurd rfl a
      subst hm0
      clear hpc hown hbl hKe k1 k2
      go_wp2
      go_ret
      refine ⟨_, rfl, ?_, HBL.out⟩
      have := HKE.out
      rw [show lft s 0 s.tl = [] from rfl, List.append_nil] at this
      rw [← this]
      exact HOWN.out
    · have hk10 := HK2.out c hc e
      have hnx := HNL.out c hc e
      have hup1 := HUP.out c hc e
      have hkb1 := HKB.out _ hnx
      rw [jnx_ne e] at k1
      obtain ⟨m', rfl, hpc'⟩ : ∃ m', m = m' + 1 ∧ Pn s.nx s.tl (s.nx c) m' := by
        cases hpc with
        | last => exact absurd rfl e
        | step _ h => exact ⟨_, rfl, h⟩
      have kn : wr.cell? ⟨ad (s.nx c), 0, none⟩ = some (I (s.key (s.nx c))) := ((H.out.below hbl).cells hnx).1
      have HP1 := Lib.hid hpc'
      have HE := Lib.hid e
      obtain ⟨x, hx⟩ : ∃ x, s.key c = x := ⟨_, rfl⟩
      obtain ⟨y, hy⟩ : ∃ y, s.key (s.nx c) = y := ⟨_, rfl⟩
      rw [hx] at k0 hk10 hup1
      rw [hy] at kn hup1 hkb1
      have HX := Lib.hid hx
      have HY := Lib.hid hy
      cases hmk : s.mrk c with
      | true =>
        rw [hmk] at k2
        have HMK := Lib.hid hmk
        clear hpc hpc' hown hbl hKe e hx hy hmk
        go_wp2
        go_roundw
        case rel => exact ⟨s.nx c, m', K, rfl, hnx, HP1.out, by omega, by omega, by rw [← HKE.out, lft_cons_t HMK.out], HOWN.out, HBL.out⟩
        case measure => simp [kn, k0]; omega
      | false =>
        rw [hmk] at k2
        have HMK := Lib.hid hmk
        obtain ⟨q, hq⟩ : ∃ q, K.length = q := ⟨_, rfl⟩
        have HQ := Lib.hid hq
        have hown1 : wr.ownsRow w.heap.size 3 1 u3 q (K.map I) := by rw [← hq]; exact hown
        have HOWN1 := Lib.hid hown1
        have hal := jblk (H.out.below hbl |>.bd c hc)
        have hal2 := jblk (H.out.below hbl |>.bd _ hnx)
        have HJ := Lib.hid (H.out.below hbl)
        rw [hq] at hKm
        clear hpc hpc' hown hbl hKe e hx hy hmk hown1 hq
        go_wp2_with (first
          | (at_builtin
             refine wpList_append_own_at _ rfl (.tmp 23) (.tmp 28) 22 rfl w.heap.size 3 i0 _ 1 8 Try.underlying22 HI.out HZ0.out HZ1.out HZ2.out rfl (by omega) u3 q (K.map I) rfl (own_below HOWN1.out ((Below.refl _ _).alloc (Nat.le_refl _) _)) ⟨wr.heap.size, 0, none⟩ 1 1 [I x] rfl rfl (cell_one_new _ _ _) (one_I x) (by unfold maxLen; omega) (by omega) (by simp; omega) ?_
             intro v2 w2 hown2 hgrow2 _ _
             have hb2 : Below w.heap.size w w2 := ((HBL.out.alloc hsz _)).grown hgrow2 (by simp; omega) (own_ge1 HOWN1.out)
             have hk2 : ∀ i, i < s.sz → w2.heap[ad i]? = wr.heap[ad i]? := fun i hi => by
               have hbi := HJ.out.bd i hi
               unfold JBead at hbi
               rw [hgrow2.block (ad i) (by have := jblk hbi; simp; omega) (fun e => by
                 rcases HOWN1.out.2 with ⟨h1, _⟩ | ⟨g, cap, cur, h1, _, h3, _⟩
                 · rw [h1] at e; simp [Value.ownBlock] at e
                 · rw [h1] at e
                   have e2 := Option.some.inj e
                   rw [e2] at hbi
                   simp at hbi
                   rw [h3] at hbi
                   injection hbi with hbi
                   injection hbi with _ hbi
                   exact absurd hbi (by decide))]
               exact Below.heap_alloc _ _ _ (jblk hbi)
             have l1 : w2.cell? ⟨ad c, 1, none⟩ = some (jp (ad (s.nx c))) := (World.cell?_of_block (w := wr) (hk2 c hc)).trans k1
             have l0 : w2.cell? ⟨ad (s.nx c), 0, none⟩ = some (I y) := (World.cell?_of_block (w := wr) (hk2 _ hnx)).trans kn
             have HO2 := Lib.hid hown2
             have HB2 := Lib.hid hb2
             clear hown2 hgrow2 hb2 hk2)
          | fail)
        go_roundw
        case rel =>
          refine ⟨s.nx c, m', K ++ [x], rfl, hnx, HP1.out, by omega, by simp [HQ.out]; omega, ?_, ?_, HB2.out⟩
          · rw [← HKE.out, lft_cons_f HMK.out, HX.out]
            simp
          · have e1 : (K ++ [x]).length = q + 1 := by simp [HQ.out]
            unfold OwnI
            rw [e1]
            simpa using HO2.out
        case measure => simp [l0, k0]; omega

end Go.Proofs.Ytfmdpmebllepeaa

/-
  package hands: listOf: a list of nodes in new memory, one block behind the other.
-/
namespace Go.Proofs.Ytfmdpmebllepeaa
open Go.RowKit

def LP (z : Nat) (l : List Int) (k : Nat) (w : World) : Prop := ∀ i, i ≤ k → w.heap[z + i]? = some (.cells #[I ((st0 l).key i), if i = k then .pointer none else jp (z + i + 1), .bool false, .bool false] 86 (0, 0))
theorem LP.next {z k : Nat} {l : List Int} {w : World} (h : LP z l k w) (hz : w.heap.size = z + k + 1) {x : Int} (hx : (st0 l).key (k + 1) = x) :
    LP z l (k + 1) ((w.alloc (.cells #[I x, .pointer none, .bool false, .bool false] 86)).setCell ⟨z + k, 1, none⟩ (jp (z + k + 1))) := by
  intro i hi
  by_cases e : i = k + 1
  · subst e
    rw [Below.heap_setCell _ _ _ _ (by show z + (k + 1) ≠ z + k; omega), if_pos rfl, hx]
    have := heap_alloc_new w (.cells #[I x, .pointer none, .bool false, .bool false] 86)
    rw [hz] at this
    exact this
  · have hik : i ≤ k := by omega
    have ha : (w.alloc (.cells #[I x, .pointer none, .bool false, .bool false] 86)).heap[z + i]? = w.heap[z + i]? := Below.heap_alloc _ _ _ (by omega)
    rw [if_neg e]
    by_cases e2 : i = k
    · subst e2
      rw [jset_at (ha.trans (h i hik))]
      rfl
    · rw [Below.heap_setCell _ _ _ _ (by show z + i ≠ z + k; omega), ha, h i hik, if_neg e2]
theorem LP.whole {z : Nat} {l : List Int} {w : World} (h : LP z l (l.length + 1) w) : JL w z (fun i => z + i) (st0 l) (fun _ => false) := by
  refine ⟨fun i hi => ?_, fun i j _ _ e => by have : z + i = z + j := e; omega, fun i _ => by show z ≤ z + i; omega⟩
  have hi : i < l.length + 2 := hi
  have := h i (by omega)
  unfold JBead jnx
  show w.heap[z + i]? = some (.cells #[I ((st0 l).key i), if i = l.length + 1 then .pointer none else jp (z + (i + 1)), .bool false, .bool false] 86 (0, 0))
  rw [this]
  rfl
set_option maxRecDepth 100000 in
set_option maxHeartbeats 4000000 in
theorem listOf_any (A : Option Addr) (n c : Nat) (l : List Int) (w : World) (h : IS w A n c l) (hn : n ≤ 1000) :
    Calls Try.prog 33 #[.slice A n c] w fun e w' => e = .returned (jp w.heap.size) ∧ JL w' w.heap.size (fun i => w.heap.size + i) (st0 l) (fun _ => false) ∧ Below w.heap.size w w' := by
  have H := Lib.hid h
  have HL := Lib.hid h.len
  obtain ⟨z, hz⟩ : ∃ z, w.heap.size = z := ⟨_, rfl⟩
  have HZ := Lib.hid hz
  clear h
  have HA : Hid (LP z l 0 (w.alloc (.cells #[I (-1), .pointer none, .bool false, .bool false] 86))) := fun i hi => by
    obtain rfl : i = 0 := by omega
    rw [if_pos rfl, ← hz]
    exact heap_alloc_new w _
  rw [hz]
  go_enter Try.func33, Try.ntmps33
  go_wp2
  go_loopw [4, 12] (fun lv iv wr => ∃ k : Nat, k ≤ n ∧ iv = .int .i64 k ∧ lv = jp (z + k) ∧ LP z l k wr ∧ wr.heap.size = z + k + 1 ∧ Below z w wr) (fun _ iv _ => n - (intOf iv).toNat)
  case atStart => exact ⟨0, Nat.zero_le _, rfl, by rw [← HZ.out]; rfl, HA.out, by simp [HZ.out], (Below.refl _ _).alloc (by rw [HZ.out]; exact Nat.le_refl _) _⟩
  case round =>
    obtain ⟨k, hk, rfl, rfl, hlp, hsz, hbl⟩ := hrel
    have HLP := Lib.hid hlp
    have HSZ := Lib.hid hsz
    have HBL := Lib.hid hbl
    have hlast := hlp k (Nat.le_refl _)
    rw [if_pos rfl] at hlast
    have hltk := jblk hlast
    by_cases hlt : k < n
    · obtain ⟨b, off, rfl, hb, hc⟩ := H.out.at_ (by omega)
      have hkl : k < l.length := by rw [HL.out]; exact hlt
      have hck : wr.cell? ⟨b, off + k, none⟩ = some (I l[k]) := (hbl.cell (by show b < z; omega)).trans (hc k hlt)
      have HKEY : Hid ((st0 l).key (k + 1) = l[k]) := st0_key l k hkl
      obtain ⟨x, hx⟩ : ∃ x, l[k] = x := ⟨_, rfl⟩
      rw [hx] at hck HKEY
      have d1 : (wr.alloc (.cells #[I x, .pointer none, .bool false, .bool false] 86)).cell? ⟨z + k, 1, none⟩ = some (.pointer none) := by
        rw [World.cell?_of_block (w := wr) (Below.heap_alloc _ _ _ hltk), jcell hlast]; rfl
      have d2 : (wr.alloc (.cells #[I x, .pointer none, .bool false, .bool false] 86)).frozen? ⟨z + k, 1, none⟩ = false := jfroz ((Below.heap_alloc _ _ _ hltk).trans hlast)
      have d3 : ∀ (u : Value) (o : Obj), ((wr.setCell ⟨z + k, 1, none⟩ u).alloc o).cell? ⟨z + k, 1, none⟩ = some u := fun u o => by
        rw [World.cell?_of_block (w := wr.setCell ⟨z + k, 1, none⟩ u) (Below.heap_alloc _ _ _ (by rw [jsize_set]; exact hltk)), jcell (jset_at hlast)]; rfl
      have HSW : Hid (∀ (u : Value) (o : Obj), (wr.setCell ⟨z + k, 1, none⟩ u).alloc o = (wr.alloc o).setCell ⟨z + k, 1, none⟩ u) := fun u o => (World.setCell_alloc_past (w := wr) o (z + k) 1 u hltk).symm
      clear hlp hsz hbl hlast hc hx hz
      go_wp2
      rw [HSW.out]
      go_roundw
      case rel => exact ⟨k + 1, by omega, by go_num, by rw [HSZ.out]; rfl, by have := HLP.out.next HSZ.out HKEY.out; rw [HSZ.out]; exact this, by rw [jsize_set]; simp [HSZ.out]; omega, (HBL.out.alloc (by rw [HSZ.out]; omega) _).setCell (p := ⟨z + k, 1, none⟩) (by show z ≤ z + k; omega) _⟩
      case measure => simp [intOf]; omega
    · obtain rfl : k = n := by omega
      have HKEY : Hid ((st0 l).key (k + 1) = 10) := by have := st0_top l; rw [HL.out] at this; exact this
      have d1 : (wr.alloc (.cells #[I 10, .pointer none, .bool false, .bool false] 86)).cell? ⟨z + k, 1, none⟩ = some (.pointer none) := by
        rw [World.cell?_of_block (w := wr) (Below.heap_alloc _ _ _ hltk), jcell hlast]; rfl
      have d2 : (wr.alloc (.cells #[I 10, .pointer none, .bool false, .bool false] 86)).frozen? ⟨z + k, 1, none⟩ = false := jfroz ((Below.heap_alloc _ _ _ hltk).trans hlast)
      have HSW : Hid (∀ (u : Value) (o : Obj), (wr.setCell ⟨z + k, 1, none⟩ u).alloc o = (wr.alloc o).setCell ⟨z + k, 1, none⟩ u) := fun u o => (World.setCell_alloc_past (w := wr) o (z + k) 1 u hltk).symm
      clear hlp hsz hbl hlast hz
      go_wp2
      go_ret
      rw [HSW.out]
      have h1 := HLP.out.next HSZ.out HKEY.out
      rw [← HSZ.out] at h1
      refine ⟨by first | rfl | rw [HZ.out], ?_, (HBL.out.alloc (by rw [HSZ.out]; omega) _).setCell (p := ⟨z + k, 1, none⟩) (by show z ≤ z + k; omega) _⟩
      refine LP.whole ?_
      rw [HL.out]
      exact h1

end Go.Proofs.Ytfmdpmebllepeaa

/-
  package hands: told: what is told of all hands, one behind the other; what is left.
-/
namespace Go.Proofs.Ytfmdpmebllepeaa
open Go.RowKit

theorem flatD_one (l : List Dn) : ∀ u ∈ flatD l, u.oneCell' = true := by
  induction l with
  | nil => intro u hu; cases hu
  | cons d t ih =>
    intro u hu
    rcases List.mem_append.mp hu with h | h
    · simp only [dcells, List.mem_cons, List.not_mem_nil, or_false] at h
      rcases h with rfl | rfl | rfl | rfl | rfl <;> rfl
    · exact ih u h
theorem run_appD (w : World) (ty : TypeId) (base : Nat) (v x : Value) (L X : List Dn) (hown : OwnD w base v L) {base2 : Nat} (hx : OwnD w base2 x X) (hbound : L.length + X.length ≤ 1000000) (hbase : base ≤ w.heap.size) :
    ∃ v' w', (Builtin.append_ #[24, 24] ty #[v, x]).run Try.prog w = .ok v' w' ∧ OwnD w' base v' (L ++ X) ∧ w.grownBy w' v.ownBlock ∧ (v'.ownBlock = v.ownBlock ∨ v'.ownBlock = some w.heap.size) := by
  obtain ⟨i, h1, hz, hs, hb⟩ := jinfo_parts done_info
  have hu := Try.underlying24
  rcases hx.2 with ⟨rfl, h0⟩ | ⟨g, cap, cur, rfl, hge, hg, hnc, _, hsz, htk⟩
  · have hX : X = [] := List.eq_nil_of_length_eq_zero h0
    subst hX
    refine ⟨v, w, ?_, by simpa using hown, World.grownBy.refl w _, .inl rfl⟩
    rcases hown.2 with ⟨rfl, h0⟩ | ⟨g, cap, cur, rfl, _, _, hnc, _⟩
    · simp [Builtin.append_, run_underlying hu, sizeOf, typeInfo, h1, Builtin.lenOf, Builtin.firstCells]
    · simp [Builtin.append_, run_underlying hu, sizeOf, typeInfo, h1, Builtin.lenOf, Builtin.firstCells, hnc, storeCells]
  · have hcells : ∀ j u, (flatD X)[j]? = some u → w.cell? ((⟨g, 0, none⟩ : Addr).add j) = some u := by
      intro j u hu'
      rw [show ((⟨g, 0, none⟩ : Addr).add j) = ⟨g, j, none⟩ by simp [Addr.add] <;> omega, jcell hg]
      rw [← htk, List.getElem?_take] at hu'
      split at hu'
      · simpa using hu'
      · cases hu'
    obtain ⟨v', w', hr, h2, h3, _, h4⟩ := run_append_own_at (P := Try.prog) w base 24 ty 37 i _ 5 40 hu h1 hz hs hb rfl (by decide) v L.length (flatD L) hown ⟨g, 0, none⟩ X.length cap (flatD X) (flatD_length X) hcells (flatD_one X) (by unfold maxLen; omega) (by omega) hbase
    refine ⟨v', w', hr, ?_, h3, h4⟩
    unfold OwnD
    rw [List.length_append, flatD_append]
    exact h2
theorem wpList_appD {w : World} {ops : Array Oper} {rest : List Oper} {o : Oper} {a : Act} {Q : Exit → Act → World → Prop} (hgd : o.guard = none) (s x : Operand)
    (ho : o.op = .call { callee := .builtin .append, args := #[s, x], argTypes := #[24, 24] })
    (base : Nat) (v y : Value) (L X : List Dn) (hs : a.eval s = v) (hsx : a.eval x = y) (hown : OwnD w base v L) {base2 : Nat} (hx : OwnD w base2 y X) (hbound : L.length + X.length ≤ 1000000) (hbase : base ≤ w.heap.size)
    (h : ∀ v' w', OwnD w' base v' (L ++ X) → w.grownBy w' v.ownBlock → (v'.ownBlock = v.ownBlock ∨ v'.ownBlock = some w.heap.size) → wpList Try.prog ops Q rest (a.put o.dst v') w') : wpList Try.prog ops Q (o :: rest) a w := by
  refine wpList_plain hgd fun K hK => ?_
  obtain ⟨v', w', hrun, h2, h3, h4⟩ := run_appD w o.type base v y L X hown hx hbound hbase
  unfold Oper.wp execOp
  simp only [ho, resolve, invoke, builtin, Sem.run_bind, Sem.run_pure, Result.andThen_ok, List.map_toArray, List.map_cons, List.map_nil, hs, hsx, hrun]
  exact hK _ _ (h v' w' h2 h3 h4)
theorem JH.one {w : World} {B nh : Nat} {hs : Nat → Nat → Value} (h : JH w B nh hs) {v i : Nat} (hv : v < nh) (hi : i < 9) : (hs v i).oneCell' = true := by
  obtain ⟨C, _, _, _, h4⟩ := h
  exact h4 v hv i hi
def DLs (W : Wd) (n : Nat) : List Dn := (List.range n).flatMap (DL W)
theorem DLs_succ (W : Wd) (n : Nat) : DLs W (n + 1) = DLs W n ++ DL W n := by unfold DLs; rw [List.range_succ, List.flatMap_append]; simp
def RetTold (base : Nat) (D : List Dn) (L : List Int) (w : World) (e : Ending) (w' : World) : Prop := ∃ dv lv, e = .returned (.agg #[dv, lv]) ∧ OwnD w' base dv D ∧ OwnI w' base lv L ∧ Below base w w'
theorem OwnD.below {w w' : World} {base : Nat} {v : Value} {L : List Dn} (h : OwnD w base v L) (hb : Below w.heap.size w w') : OwnD w' base v L := own_below h hb
section
variable {al base B nh : Nat} {P : Nat → PL} {W : Wd} {ad : Nat → Nat} {hs : Nat → Nat → Value} {w : World}
theorem GS.blk (h : GS al base B nh P W ad hs w) {v : Nat} (hv : v < nh) : ∀ g, (hs v 2).ownBlock = some g → g < w.heap.size := fun g hg => by
  obtain ⟨cs, hc, _⟩ := (h.ho v hv).jv.done.blk hg
  exact jblk hc
set_option maxRecDepth 100000 in
set_option maxHeartbeats 4000000 in
theorem told_any {n : Nat} (h : GS al base B nh P W ad hs w) (h0 : 0 < W.s.sz) (h0t : 0 ≠ W.s.tl) (htl : W.s.tl < W.s.sz) (hnl : ∀ i, i < W.s.sz → i ≠ W.s.tl → W.s.nx i < W.s.sz) (hk : W.s.key W.s.tl = 10) (hk2 : ∀ i, i < W.s.sz → i ≠ W.s.tl → W.s.key i ≠ 10) (hup : ∀ i, i < W.s.sz → i ≠ W.s.tl → W.s.key i < W.s.key (W.s.nx i)) (hkb : ∀ i, i < W.s.sz → W.s.key i ≤ 10) (hp : Pn W.s.nx W.s.tl (W.s.nx 0) n) (hn : n ≤ 1000) (hnh : nh ≤ 4) (hlen : ∀ v, v < nh → (DL W v).length ≤ 5) (A : Option Addr) (c : Nat) (hA : 0 < nh → A = some ⟨B, 0, none⟩) :
    Calls Try.prog 37 #[.slice A nh c, jp (ad 0)] w (RetTold w.heap.size (DLs W nh) (lft W.s n (W.s.nx 0)) w) := by
  have H := Lib.hid h
  have HLF : Hid (∀ w', Below w.heap.size w w' → Calls Try.prog 72 #[jp (ad 0)] w' (RetK (lft W.s n (W.s.nx 0)) w')) := fun w' hb => left_any (lk := W.lk) ⟨fun i hi => (hb.block _ (h.js.l.lt hi)).trans (h.js.l.bd i hi)⟩ h0 h0t htl hnl hk hk2 hup hkb hp hn
  have HLEN := Lib.hid hlen
  have HA := Lib.hid hA
  clear h h0 h0t htl hnl hk hk2 hup hkb hp hn hlen hA
  go_enter Try.func37, Try.ntmps37
  go_wp2
  go_loopw [5, 10] (fun dv iv wr => ∃ k : Nat, k ≤ nh ∧ iv = .int .i64 k ∧ OwnD wr w.heap.size dv (DLs W k) ∧ (DLs W k).length ≤ 5 * k ∧ Below w.heap.size w wr ∧ TBk wr w.heap.size) (fun _ iv _ => nh - (intOf iv).toNat)
  case atStart => exact ⟨0, Nat.zero_le _, rfl, OwnD.nil _ _, Nat.le_refl _, (Below.refl _ _).alloc (Nat.le_refl _) _, heap_alloc_new w _⟩
  case round =>
    obtain ⟨k, hk, rfl, hown, hl, hbl, htb⟩ := hrel
    have HOWN := Lib.hid hown
    have HBL := Lib.hid hbl
    have HTB := Lib.hid htb
    have hszr := hbl.size
    by_cases hlt : k < nh
    · have e0 : A = some ⟨B, 0, none⟩ := HA.out (by omega)
      subst e0
      have hB : B < w.heap.size := H.out.js.h.lt
      have cc : ∀ i, i < 9 → wr.cell? ⟨B, k * 9 + i, none⟩ = some (hs k i) := fun i hi => (hbl.cell (by exact hB)).trans (H.out.js.h.cell hlt hi)
      have c0 : wr.cell? ⟨B, k * 9, none⟩ = some (hs k 0) := cc 0 (by omega)
      have c1 := cc 1 (by omega)
      have c2 := cc 2 (by omega)
      have c3 := cc 3 (by omega)
      have c4 := cc 4 (by omega)
      have c5 := cc 5 (by omega)
      have c6 := cc 6 (by omega)
      have c7 := cc 7 (by omega)
      have c8 := cc 8 (by omega)
      have s0 : ∀ (w : World) (a : Addr) (m : Mode), (store a (hs k 0) m).run Try.prog w = stored Try.prog w a (hs k 0) m := fun w a m => run_store _ w a _ m (H.out.js.h.one hlt (by omega))
      have s1 : ∀ (w : World) (a : Addr) (m : Mode), (store a (hs k 1) m).run Try.prog w = stored Try.prog w a (hs k 1) m := fun w a m => run_store _ w a _ m (H.out.js.h.one hlt (by omega))
      have s2 : ∀ (w : World) (a : Addr) (m : Mode), (store a (hs k 2) m).run Try.prog w = stored Try.prog w a (hs k 2) m := fun w a m => run_store _ w a _ m (H.out.js.h.one hlt (by omega))
      have s3 : ∀ (w : World) (a : Addr) (m : Mode), (store a (hs k 3) m).run Try.prog w = stored Try.prog w a (hs k 3) m := fun w a m => run_store _ w a _ m (H.out.js.h.one hlt (by omega))
      have s4 : ∀ (w : World) (a : Addr) (m : Mode), (store a (hs k 4) m).run Try.prog w = stored Try.prog w a (hs k 4) m := fun w a m => run_store _ w a _ m (H.out.js.h.one hlt (by omega))
      have s5 : ∀ (w : World) (a : Addr) (m : Mode), (store a (hs k 5) m).run Try.prog w = stored Try.prog w a (hs k 5) m := fun w a m => run_store _ w a _ m (H.out.js.h.one hlt (by omega))
      have s6 : ∀ (w : World) (a : Addr) (m : Mode), (store a (hs k 6) m).run Try.prog w = stored Try.prog w a (hs k 6) m := fun w a m => run_store _ w a _ m (H.out.js.h.one hlt (by omega))
      have s7 : ∀ (w : World) (a : Addr) (m : Mode), (store a (hs k 7) m).run Try.prog w = stored Try.prog w a (hs k 7) m := fun w a m => run_store _ w a _ m (H.out.js.h.one hlt (by omega))
      have s8 : ∀ (w : World) (a : Addr) (m : Mode), (store a (hs k 8) m).run Try.prog w = stored Try.prog w a (hs k 8) m := fun w a m => run_store _ w a _ m (H.out.js.h.one hlt (by omega))
      have HDK := Lib.hid (((H.out.ho k hlt).jv.done).keep (w' := wr) fun g hg => hbl.block g (H.out.blk hlt g hg))
      have hlk := HLEN.out k hlt
      have HS := Lib.hid (DLs_succ W k)
      clear cc hown hbl htb
      go_wp2_with (first
        | (at_builtin
           refine wpList_appD rfl (.tmp 14) (.tmp 16) rfl w.heap.size u5 (hs k 2) (DLs W k) (DL W k) rfl rfl (HOWN.out.below ((Below.refl _ _).alloc (Nat.le_refl _) _)) (HDK.out.below ((Below.refl _ _).alloc (Nat.le_refl _) _)) (by omega) (by simp; omega) ?_
           intro v2 w2 hown2 hgrow2 hat2
           have hge : ∀ g, u5.ownBlock = some g → w.heap.size ≤ g ∧ ∃ C, wr.heap[g]? = some (.cells C 37 (0, 0)) := fun g hg => (by obtain ⟨C, a, b⟩ := HOWN.out.blk hg; exact ⟨b, C, a⟩)
           have hb2 : Below w.heap.size w w2 := ((HBL.out.alloc hszr _)).grown hgrow2 (by simp; omega) (fun g hg => (hge g hg).1)
           have ht2 : TBk w2 w.heap.size := (by
             have ht := HTB.out
             unfold TBk at ht ⊢
             rw [hgrow2.block _ (by have := jblk ht; simp; omega) (fun e => by
               obtain ⟨_, C, hC⟩ := hge _ e.symm
               rw [ht] at hC
               injection hC with hC
               injection hC with _ hC
               exact absurd hC (by decide)), Below.heap_alloc _ _ _ (jblk ht)]
             exact ht)
           have HO2 := Lib.hid hown2
           have HB2 := Lib.hid hb2
           have HT2 := Lib.hid ht2
           clear hown2 hgrow2 hat2 hb2 ht2 hge)
        | fail)
      go_roundw
      case rel => exact ⟨k + 1, by omega, by go_num, by rw [HS.out]; exact HO2.out, by rw [HS.out, List.length_append]; omega, HB2.out, HT2.out⟩
      case measure => simp [intOf]; omega
    · obtain rfl : k = nh := by omega
      have HLF2 := Lib.hid (HLF.out wr hbl)
      clear hown hbl htb
      go_wp2_with fail
      refine HLF2.out.mono ?_
      rintro e w2 ⟨lv, rfl, hown2, hb2⟩
      have ht2 : TBk w2 w.heap.size := (hb2.block _ (jblk HTB.out)).trans HTB.out
      have t0 : w2.cell? ⟨w.heap.size, 0, none⟩ = some (.slice none 0 0) := by rw [jcell ht2]; rfl
      have t1 : w2.cell? ⟨w.heap.size, 1, none⟩ = some (.slice none 0 0) := by rw [jcell ht2]; rfl
      have f0 := jfroz (i := 0) ht2
      have f1 := jfroz (i := 1) ht2
      have HO2 := Lib.hid hown2
      have HB2 := Lib.hid hb2
      have HT2 := Lib.hid ht2
      clear hown2 hb2 ht2
      obtain ⟨dA, dc, rfl, -⟩ := HOWN.out.is_
      obtain ⟨lA, lc, rfl, -, -⟩ := HO2.out.is_
      obtain ⟨dn, hdn⟩ : ∃ dn, (DLs W k).length = dn := ⟨_, rfl⟩
      obtain ⟨ln, hln⟩ : ∃ ln, (lft W.s n (W.s.nx 0)).length = ln := ⟨_, rfl⟩
      have HDN := Lib.hid hdn
      have HLN := Lib.hid hln
      rw [hdn, hln]
      clear hdn hln
      go_wp2
      have hfin := jset_at (i := 1) (v := .slice lA ln lc) (jset_at (i := 0) (v := .slice dA dn dc) HT2.out)
      have r0 : ((w2.setCell ⟨w.heap.size, 0, none⟩ (.slice dA dn dc)).setCell ⟨w.heap.size, 1, none⟩ (.slice lA ln lc)).cell? ⟨w.heap.size, 0, none⟩ = some (.slice dA dn dc) := by rw [jcell hfin]; rfl
      have r1 : ((w2.setCell ⟨w.heap.size, 0, none⟩ (.slice dA dn dc)).setCell ⟨w.heap.size, 1, none⟩ (.slice lA ln lc)).cell? ⟨w.heap.size, 1, none⟩ = some (.slice lA ln lc) := by rw [jcell hfin]; rfl
      clear hfin
      refine bodyPost_ret (v := .agg #[.slice dA dn dc, .slice lA ln lc]) (by simp [results, Try.results37, go_sem, r0, r1]) rfl ?_
      have hz2 := HB2.out.size
      have hbw : Below w.heap.size wr w2 := HB2.out.mono hszr
      have hD2 : OwnD w2 w.heap.size (.slice dA dn dc) (DLs W k) := by
        have := HOWN.out
        rw [HDN.out] at this
        exact this.keep fun g hg => HB2.out.block g (by obtain ⟨cs, hc, _⟩ := this.blk hg; exact jblk hc)
      have hL2 : OwnI w2 w.heap.size (.slice lA ln lc) (lft W.s n (W.s.nx 0)) := by
        have := own_mono1 HO2.out hszr
        unfold OwnI
        rw [HLN.out] at this ⊢
        exact this
      refine ⟨_, _, rfl, ?_, ?_, ((HBL.out.trans hbw).setCell (p := ⟨w.heap.size, 0, none⟩) (Nat.le_refl _) _).setCell (p := ⟨w.heap.size, 1, none⟩) (Nat.le_refl _) _⟩
      · refine hD2.keep fun g hg => ?_
        obtain ⟨cs, hc, _⟩ := hD2.blk hg
        have hne : g ≠ w.heap.size := fun e => by
          have ht := HT2.out
          unfold TBk at ht
          rw [e, ht] at hc
          injection hc with hc
          injection hc with _ hc
          exact absurd hc (by decide)
        rw [Below.heap_setCell _ _ _ _ hne, Below.heap_setCell _ _ _ _ hne]
      · refine ⟨hL2.1, ?_⟩
        rcases hL2.2 with h0 | ⟨g, cap, cur, h1, h2, h3, h4⟩
        · exact .inl h0
        · have hne : g ≠ w.heap.size := fun e => by
            have ht := HT2.out
            unfold TBk at ht
            rw [e, ht] at h3
            injection h3 with h3
            injection h3 with _ h3
            exact absurd h3 (by decide)
          exact .inr ⟨g, cap, cur, h1, h2, by rw [Below.heap_setCell _ _ _ _ hne, Below.heap_setCell _ _ _ _ hne]; exact h3, h4⟩
end

end Go.Proofs.Ytfmdpmebllepeaa
