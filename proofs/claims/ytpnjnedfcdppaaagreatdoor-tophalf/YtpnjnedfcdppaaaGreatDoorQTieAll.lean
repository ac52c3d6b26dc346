/-
  Joined texts: YtpnjnedfcdppaaaGreatDoorOpRows, YtpnjnedfcdppaaaGreatDoorQTie.
-/
import Derived.Test.YtpnjnedfcdppaaaGreatDoorRunAAll
import Derived.Test.YtpnjnedfcdppaaaGreatDoorInts
import Derived.Deep.AppendLies
import Derived.Test.YtpnjnedfcdppaaaGreatDoorQOpsAll
import Derived.Test.YtpnjnedfcdppaaaGreatDoorTKeysAll
/-
  ROWS OF OPS of the call's own.
-/
namespace Go.Proofs.YtpnjnedfcdppaaaGreatDoor
open Go.RowKit

def flatO : List OP → List Value
  | [] => []
  | o :: t => I o.1 :: I o.2.1 :: I o.2.2 :: flatO t
theorem flatO_length (l : List OP) : (flatO l).length = l.length * 3 := by induction l <;> simp [flatO, *]; omega
theorem flatO_append (l m : List OP) : flatO (l ++ m) = flatO l ++ flatO m := by induction l <;> simp [flatO, *]
theorem flatO_take (l : List OP) (k : Nat) : (flatO l).take (k * 3) = flatO (l.take k) := by
  induction l generalizing k with
  | nil => simp [flatO]
  | cons o t ih =>
    cases k with
    | zero => simp [flatO]
    | succ k => rw [show (k + 1) * 3 = k * 3 + 1 + 1 + 1 by omega]; simp [flatO, ih]
theorem flatO_at (l : List OP) (i j : Nat) (h : i < l.length) (hj : j < 3) : (flatO l)[i * 3 + j]? = some (of_ l i j) := by
  induction l generalizing i with
  | nil => simp at h
  | cons o t ih =>
    cases i with
    | zero => rcases (show j = 0 ∨ j = 1 ∨ j = 2 by omega) with rfl | rfl | rfl <;> simp [flatO, of_]
    | succ i =>
      rw [show (i + 1) * 3 + j = i * 3 + j + 1 + 1 + 1 by omega]
      simp only [flatO, List.getElem?_cons_succ]
      rw [ih i (by simpa using h)]
      simp [of_]
theorem flatO_one (l : List OP) : ∀ u ∈ flatO l, u.oneCell' = true := by
  induction l with
  | nil => intro u h; cases h
  | cons o t ih =>
    intro u h
    simp [flatO] at h
    rcases h with rfl | rfl | rfl | h
    · rfl
    · rfl
    · rfl
    · exact ih u h
/-- a row of ops of the call's own -/
def OwnO (w : World) (base : Nat) (v : Value) (L : List OP) : Prop := w.ownsRow base 69 3 v L.length (flatO L)
theorem OwnO.os {w : World} {base : Nat} {v : Value} {L : List OP} (h : OwnO w base v L) : ∃ A c, v = .slice A L.length c ∧ OS w A L.length c L := by
  rcases h.2 with ⟨rfl, h0⟩ | ⟨g, cap, cur, rfl, hb, hg, hnc, _, hsz, htk⟩
  · have hl : L = [] := List.eq_nil_of_length_eq_zero h0
    subst hl
    exact ⟨none, 0, rfl, ⟨rfl, Rd.none_⟩⟩
  · refine ⟨_, cap, rfl, ⟨rfl, hnc, fun _ => ⟨g, 0, rfl, ?_, fun i hi j hj => ?_⟩⟩⟩
    · rcases Nat.lt_or_ge g w.heap.size with hlt | hge
      · exact hlt
      · rw [Array.getElem?_eq_none hge] at hg; cases hg
    · rw [cell_of_row _ _ _ _ _ _ hg]
      have h1 := flatO_at L i j hi hj
      rw [← htk, List.getElem?_take, if_pos (by omega)] at h1
      simpa using h1
theorem OwnO.prefix_ {w : World} {base k : Nat} {A : Option Addr} {c : Nat} {L : List OP} (h : OwnO w base (.slice A L.length c) L) (hk : k < L.length) : OwnO w base (.slice A k c) (L.take k) := by
  rcases h.2 with ⟨_, h0⟩ | ⟨g, cap, cur, e, hb, hg, hnc, hm, hsz, htk⟩
  · omega
  · have hl : (L.take k).length = k := by rw [List.length_take]; omega
    injection e with e1 e2 e3
    subst e1 e3
    refine ⟨by rw [flatO_length], .inr ⟨g, c, cur, by rw [hl], hb, hg, by omega, hm, hsz, ?_⟩⟩
    rw [hl, ← flatO_take, ← htk, List.take_take, Nat.min_eq_left (by omega)]
theorem op_info : (Tryz.prog.info? 69).map (fun i => (i.zero, i.size, i.bytes)) = some (some (.agg #[I 0, I 0, I 0]), 3, 24) := by kernel_rfl
theorem OS.cells {w : World} {n c : Nat} {A : Option Addr} {l : List OP} (h : OS w A n c l) {ad : Addr} (e : A = some ad) : ∀ j u, (flatO l)[j]? = some u → w.cell? (ad.add j) = some u := by
  intro j u hu
  have hj : j < (flatO l).length := by
    rcases Nat.lt_or_ge j (flatO l).length with h1 | h1
    · exact h1
    · rw [List.getElem?_eq_none h1] at hu; cases hu
  rw [flatO_length, h.len] at hj
  obtain ⟨b, off, e2, hb, hc⟩ := h.rd.2 (by omega)
  rw [e] at e2
  injection e2 with e2
  subst e2
  have h1 := hc (j / 3) (by omega) (j % 3) (by omega)
  have h2 := flatO_at l (j / 3) (j % 3) (by rw [h.len]; omega) (by omega)
  rw [show j / 3 * 3 + j % 3 = j by omega] at h1 h2
  rw [addn, h1]
  rw [h2] at hu
  exact hu
theorem OS.drewN {w : World} {n c : Nat} {A : Option Addr} {l : List OP} (h : OS w A n c l) (k : Nat) : OS (w.drewN k) A n c l := ⟨h.len, h.rd⟩

theorem three_new (w : World) (a b c : Int) (t : Nat) : ∀ j u, [I a, I b, I c][j]? = some u → (w.alloc (.cells #[I a, I b, I c] t)).cell? ((⟨w.heap.size, 0, none⟩ : Addr).add j) = some u := by
  intro j u hu
  rw [addn, Nat.zero_add]
  have := heap_alloc_new w (.cells #[I a, I b, I c] t)
  rw [cell_of_row _ _ _ _ _ _ this]
  simpa using hu
theorem three_one (a b c : Int) : ∀ u ∈ [I a, I b, I c], u.oneCell' = true := by
  intro u hu
  simp at hu
  rcases hu with rfl | rfl | rfl <;> rfl
end Go.Proofs.YtpnjnedfcdppaaaGreatDoor

/-
  WHAT THE PLAIN MAP ANSWERS AND WHAT IS ANSWERED HERE are the same, of keys that may be, without Values: plain lists.
-/
namespace Go.Proofs.YtpnjnedfcdppaaaGreatDoor
open Go.RowKit

/-- the plain map has just these keys, and no Values -/
structure QT (l : PL) (ks : List Int) : Prop where
  chk : chk l = 0
  ks : pk l = ks
  no : ∀ p ∈ l, p.2 = 0
theorem QT.srt {l : PL} {ks : List Int} (h : QT l ks) : Srt 0 l := ((chk_zero l).1 h.chk).2
theorem QT.len {l : PL} {ks : List Int} (h : QT l ks) : l.length = ks.length := by rw [← h.ks]; simp
theorem QT.has {l : PL} {ks : List Int} (h : QT l ks) (k : Int) : (getR k l).isSome = decide (k ∈ ks) := by
  rw [← h.ks]
  have := get_mem k h.srt
  cases hg : (getR k l).isSome <;> simp_all
theorem get_val {k v : Int} : ∀ {l : PL}, getR k l = some v → ∃ p ∈ l, p.2 = v
  | [], h => by simp [getR] at h
  | p :: t, h => by
    unfold getR at h
    split at h
    · obtain ⟨q, hq, e⟩ := get_val h
      exact ⟨q, by simp [hq], e⟩
    · split at h
      · exact ⟨p, by simp, by simpa using h⟩
      · cases h
theorem QT.get {l : PL} {ks : List Int} (h : QT l ks) (k : Int) : gA (getR k l) = ⟨0, 0, 0, decide (k ∈ ks)⟩ := by
  have h1 := h.has k
  cases hg : getR k l with
  | none => rw [hg] at h1; rw [← h1]; rfl
  | some v =>
    obtain ⟨p, hp, e⟩ := get_val hg
    have := h.no p hp
    rw [hg] at h1
    rw [← h1, ← e, this]
    rfl
theorem ins_no {k : Int} : ∀ {l : PL}, (∀ p ∈ l, p.2 = 0) → ∀ p ∈ insR k 0 l, p.2 = 0
  | [], _, p, hp => by simp [insR] at hp; rw [hp]
  | q :: t, h, p, hp => by
    unfold insR at hp
    split at hp
    · rcases List.mem_cons.1 hp with e | e
      · exact h p (by simp [e])
      · exact ins_no (fun x hx => h x (by simp [hx])) p e
    · split at hp
      · rcases List.mem_cons.1 hp with e | e
        · rw [e]
        · exact h p (by simp [e])
      · rcases List.mem_cons.1 hp with e | e
        · rw [e]
        · exact h p (by simpa using e)
theorem del_no {k : Int} : ∀ {l : PL}, (∀ p ∈ l, p.2 = 0) → ∀ p ∈ delR k l, p.2 = 0
  | [], _, p, hp => by simp [delR] at hp
  | q :: t, h, p, hp => by
    unfold delR at hp
    split at hp
    · rcases List.mem_cons.1 hp with e | e
      · exact h p (by simp [e])
      · exact del_no (fun x hx => h x (by simp [hx])) p e
    · split at hp
      · exact h p (by simp [hp])
      · exact h p hp
theorem cnt_next (k : Int) : ∀ l : PL, l[cnt l k]? = (l.filter fun p => decide (k ≤ p.1)).head?
  | [] => rfl
  | p :: t => by
    by_cases h : p.1 < k
    · rw [cnt_cons_lt h, List.getElem?_cons_succ, cnt_next k t, List.filter_cons, if_neg (by simp; omega)]
    · rw [cnt_cons_ge h, List.filter_cons, if_pos (by simp; omega)]
      rfl
theorem cnt_prev (k : Int) : ∀ {l : PL} {a : Int}, Srt a l → (l.filter fun p => decide (p.1 < k)) = l.take (cnt l k)
  | [], _, _ => rfl
  | p :: t, a, h => by
    by_cases hp : p.1 < k
    · rw [cnt_cons_lt hp, List.take_succ_cons, List.filter_cons, if_pos (by simpa using hp), cnt_prev k h.2.2]
    · rw [cnt_cons_ge hp, List.filter_cons, if_neg (by simpa using hp), List.take_zero, List.filter_eq_nil_iff]
      intro q hq
      have := srt_ge h.2.2 q.1 (List.mem_map.2 ⟨q, hq, rfl⟩)
      simp
      omega
theorem pairA_some {l : PL} {i : Nat} {q : Int × Int} (h : l[i]? = some q) : pairA l i = ⟨0, q.1, q.2, true⟩ := by
  obtain ⟨h1, h2⟩ := List.getElem?_eq_some_iff.1 h
  rw [pairA_in l i h1, h2]
theorem pairA_none {l : PL} {i : Nat} (h : l[i]? = none) : pairA l i = an0 := by
  have := List.getElem?_eq_none_iff.1 h
  unfold pairA
  rw [if_neg (by omega)]
theorem QT.next {l : PL} {ks : List Int} (h : QT l ks) (k : Int) : pairA l (cnt l (k + 1)) = hanO (qnx k ks) := by
  have hq : qnx k ks = (l[cnt l (k + 1)]?).map Prod.fst := by
    rw [cnt_next, ← h.ks]
    unfold qnx
    rw [List.filter_map, List.head?_map]
    rfl
  rw [hq]
  cases he : l[cnt l (k + 1)]? with
  | none => rw [pairA_none he]; rfl
  | some q =>
    rw [pairA_some he, h.no q (List.mem_of_getElem? he)]
    rfl
theorem QT.prev {l : PL} {ks : List Int} (h : QT l ks) (k : Int) : pairA l ((cnt l k : Int) - 1) = hanO (qpv k ks) := by
  have hq : qpv k ks = ((l.take (cnt l k)).getLast?).map Prod.fst := by
    rw [← cnt_prev k h.srt, ← h.ks]
    unfold qpv
    rw [List.filter_map, List.getLast?_map]
    rfl
  rw [hq, List.getLast?_take]
  have hc := cnt_le l k
  by_cases h0 : cnt l k = 0
  · rw [h0, if_pos rfl]
    unfold pairA
    rw [if_neg (by omega)]
    rfl
  · rw [if_neg h0, show (cnt l k : Int) - 1 = ((cnt l k - 1 : Nat) : Int) by omega]
    have hlt : cnt l k - 1 < l.length := by omega
    have he : l[cnt l k - 1]? = some l[cnt l k - 1] := List.getElem?_eq_getElem hlt
    rw [pairA_some he, he, h.no _ (List.getElem_mem hlt)]
    rfl
theorem QT.opB {kind key : Int} (ho : hok (kind, key, 0)) : opB kind key = true := by
  obtain ⟨h1, h2, h3, h4⟩ := ho
  simp only at h1 h2 h3 h4
  unfold Go.Proofs.YtpnjnedfcdppaaaGreatDoor.opB
  rw [if_pos ⟨h1, h2⟩]
  unfold keyB
  exact decide_eq_true (by omega)
theorem QT.ans {l : PL} {ks : List Int} (h : QT l ks) {kind key : Int} (ho : hok (kind, key, 0)) (hl : l.length < 200) : doA l kind key = hA ks (kind, key, 0) := by
  have hb := QT.opB ho
  obtain ⟨h1, h2, h3, h4⟩ := ho
  simp only at h1 h2 h3 h4
  have e1 : doA l kind key = if kind = 1 then putA l key else if kind = 3 then getA l key else lookA l kind key := by
    unfold doA
    rw [if_neg (by simpa using h.chk), if_neg (by rw [hb]; decide)]
  have e2 : hA ks (kind, key, 0) = if kind = 4 then hanO (qnx key ks) else if kind = 5 then hanO (qpv key ks) else ⟨0, 0, 0, decide (key ∈ ks)⟩ := by
    unfold hA
    rw [if_neg (fun e => e ⟨h1, h2⟩), if_neg (fun e => e ⟨h3, h4⟩)]
  rw [e1, e2]
  clear e1 e2
  rcases (show kind = 1 ∨ kind = 2 ∨ kind = 3 ∨ kind = 4 ∨ kind = 5 by omega) with rfl | rfl | rfl | rfl | rfl
  · show putA l key = ⟨0, 0, 0, decide (key ∈ ks)⟩
    rw [putA_eq, h.has key]
    by_cases hk : key ∈ ks
    · simp [hk]
    · simp [hk]
      omega
  · show lookA l 2 key = ⟨0, 0, 0, decide (key ∈ ks)⟩
    unfold lookA
    rw [if_pos rfl, getA_eq, h.get]
  · show getA l key = ⟨0, 0, 0, decide (key ∈ ks)⟩
    rw [getA_eq, h.get]
  · show lookA l 4 key = hanO (qnx key ks)
    unfold lookA
    rw [if_neg (by decide), if_pos rfl, h.next]
  · show lookA l 5 key = hanO (qpv key ks)
    unfold lookA
    rw [if_neg (by decide), if_neg (by decide), if_pos rfl, h.prev]
theorem QT.step {l : PL} {ks : List Int} (h : QT l ks) (hu : Up ks) {kind key : Int} (ho : hok (kind, key, 0)) (hl : l.length < 200) : QT (doL l kind key 0) (hL ks (kind, key, 0)) := by
  have hb := QT.opB ho
  have hc := chk_doL h.chk kind key 0
  refine ⟨hc, ?_, ?_⟩
  · have hL1 : hL ks (kind, key, 0) = if kind = 1 then qins key ks else if kind = 3 then qdel key ks else ks := by unfold hL; rw [if_pos ho]
    have hup := srt_up ((chk_zero _).1 hc).2
    rw [hL1]
    unfold doL at hup ⊢
    rw [if_neg (by simpa using h.chk), if_neg (by rw [hb]; decide)] at hup ⊢
    by_cases k1 : kind = 1
    · rw [if_pos k1, putL_eq, if_pos (.inr hl)] at hup ⊢
      rw [if_pos k1]
      refine up_ext hup (up_qins hu) fun x => ?_
      rw [mem_insR, mem_qins, h.ks]
    · by_cases k3 : kind = 3
      · rw [if_neg k1, if_pos k3, cutL_eq] at hup ⊢
        rw [if_neg k1, if_pos k3]
        refine up_ext hup (up_qdel hu) fun x => ?_
        rw [mem_delR key x h.srt, mem_qdel, h.ks]
      · rw [if_neg k1, if_neg k3, if_neg k1, if_neg k3]
        exact h.ks
  · unfold doL
    rw [if_neg (by simpa using h.chk), if_neg (by rw [hb]; decide)]
    split
    · rw [putL_eq, if_pos (.inr hl)]
      exact ins_no h.no
    · split
      · rw [cutL_eq]
        exact del_no h.no
      · exact h.no
/-- op by op they go alike -/
theorem tie_run (ops : List OP) (ho : ∀ o ∈ ops, hok o ∧ o.2.2 = 0) (hl : ops.length ≤ 200) : ∀ k, k ≤ ops.length → QT (runR (ops.take k)).1 (hR (ops.take k)).1 ∧ (runR (ops.take k)).2 = (hR (ops.take k)).2
  | 0, _ => ⟨⟨by simp [runR]; exact (chk_zero []).2 ⟨by simp, trivial⟩, by simp [runR, hR], by simp [runR]⟩, by simp [runR, hR]⟩
  | k + 1, hk => by
    obtain ⟨h1, h2⟩ := tie_run ops ho hl k (by omega)
    have hkl : k < ops.length := by omega
    have hlen : (runR (ops.take k)).1.length < 200 := by
      rw [h1.len]
      have := hR_le (ops.take k)
      rw [List.length_take] at this
      omega
    have hu := (hR_up (ops.take k)).1
    rw [runR_succ ops k hkl, hR_succ ops k hkl]
    obtain ⟨o1, o2⟩ := ho ops[k] (List.getElem_mem hkl)
    generalize ops[k] = o at *
    obtain ⟨a, b, c⟩ := o
    simp only at o2
    subst o2
    refine ⟨h1.step hu o1 hlen, ?_⟩
    show (runR (ops.take k)).2 ++ [doA _ a b] = (hR (ops.take k)).2 ++ [hA _ (a, b, 0)]
    rw [h2, h1.ans o1 hlen]
theorem tie_all {ops : List OP} (ho : ∀ o ∈ ops, hok o ∧ o.2.2 = 0) (hl : ops.length ≤ 200) : kys (runR ops).1 = (hR ops).1 ∧ (runR ops).2 = (hR ops).2 := by
  have := tie_run ops ho hl ops.length (Nat.le_refl _)
  rw [List.take_length] at this
  exact ⟨this.1.ks, this.2⟩

/-- those of all ops that may come, as many as there is room for, without Values -/
def qOwn (ops : List OP) : List OP := ops.foldl (fun acc o => if hok o ∧ acc.length < 200 then acc ++ [(o.1, o.2.1, 0)] else acc) []
theorem qOwn_succ (ops : List OP) (k : Nat) (h : k < ops.length) : qOwn (ops.take (k + 1)) = if hok ops[k] ∧ (qOwn (ops.take k)).length < 200 then qOwn (ops.take k) ++ [(ops[k].1, ops[k].2.1, 0)] else qOwn (ops.take k) := by
  unfold qOwn
  rw [List.take_succ_eq_append_getElem h, List.foldl_append]
  rfl
theorem qOwn_ok (ops : List OP) : (qOwn ops).length ≤ 200 ∧ ∀ o ∈ qOwn ops, hok o ∧ o.2.2 = 0 := by
  have h : ∀ (ops acc : List OP), (acc.length ≤ 200 ∧ ∀ o ∈ acc, hok o ∧ o.2.2 = 0) → (ops.foldl (fun acc o => if hok o ∧ acc.length < 200 then acc ++ [(o.1, o.2.1, 0)] else acc) acc).length ≤ 200 ∧ ∀ o ∈ (ops.foldl (fun acc o => if hok o ∧ acc.length < 200 then acc ++ [(o.1, o.2.1, 0)] else acc) acc), hok o ∧ o.2.2 = 0 := by
    intro ops
    induction ops with
    | nil => exact fun acc h => h
    | cons o t ih =>
      intro acc ha
      rw [List.foldl_cons]
      refine ih _ ?_
      by_cases hc : hok o ∧ acc.length < 200
      · rw [if_pos hc]
        refine ⟨by simp; omega, fun x hx => ?_⟩
        rcases List.mem_append.1 hx with e | e
        · exact ha.2 x e
        · simp only [List.mem_singleton] at e
          subst e
          exact ⟨hc.1, rfl⟩
      · rw [if_neg hc]
        exact ha
  exact h ops [] ⟨by simp, by simp⟩

end Go.Proofs.YtpnjnedfcdppaaaGreatDoor
