/-
  TO A VINE, BY TURNS: which keys come up, what each turn makes, where it ends: plain mathematics. Nothing of the program.
-/
import Derived.Test.YtpnjnedfcdppaaaGreatDoorVPure
import Derived.Test.YtpnjnedfcdppaaaGreatDoorSPureAll
namespace Go.Proofs.YtpnjnedfcdppaaaGreatDoor

/-- each node first -/
def Tr.fro : Tr → List Int
  | .nil => []
  | .node a k b => k :: (a.fro ++ b.fro)
/-- the keys that come up: along the way to the right, all that stand to the left, each node first -/
def vks : Tr → List Int
  | .nil => []
  | .node a _ b => a.fro ++ vks b
theorem fro_length (t : Tr) : t.fro.length = t.size := by
  induction t with
  | nil => rfl
  | node a k b iha ihb => simp [Tr.fro, Tr.size, iha, ihb]; omega
theorem fro_mem (t : Tr) (x : Int) : x ∈ t.fro ↔ x ∈ t.ks := by
  induction t with
  | nil => simp [Tr.fro, Tr.ks]
  | node a k b iha ihb =>
    simp only [Tr.fro, mem_node, List.mem_cons, List.mem_append, iha, ihb]
    constructor
    · rintro (h | h | h)
      · exact .inr (.inl h)
      · exact .inl h
      · exact .inr (.inr h)
    · rintro (h | h | h)
      · exact .inr (.inl h)
      · exact .inl h
      · exact .inr (.inr h)
/-- one step: the left one comes up -/
theorem vks_turn (a b c : Tr) (k p : Int) : vks (.node (.node a k b) p c) = k :: vks (.node a k (.node b p c)) := by simp [vks, Tr.fro]
theorem vks_right (k : Int) (b : Tr) : vks (.node .nil k b) = vks b := by simp [vks, Tr.fro]
/-- how many nodes are on the way to the right -/
def Tr.rsp : Tr → Nat
  | .nil => 0
  | .node _ _ b => b.rsp + 1
theorem vks_length (t : Tr) : (vks t).length + t.rsp = t.size := by
  induction t with
  | nil => rfl
  | node a k b _ ihb =>
    simp only [vks, List.length_append, fro_length, Tr.rsp, Tr.size]
    omega
theorem vks_less (t : Tr) : (vks t).length < max t.size 1 := by
  have h := vks_length t
  cases t with
  | nil => show 0 < max 0 1; decide
  | node a k b =>
    simp only [Tr.rsp] at h
    omega
theorem vks_le (t : Tr) : (vks t).length ≤ t.size := by have := vks_length t; omega

/-- turned one by one -/
inductive Tns : PL → List Int → PL → Prop
  | nil {l : PL} : Tns l [] l
  | cons {l m : PL} {k : Int} {ks : List Int} {i : Nat} : i < l.length → ky l i = k → dp l i ≠ 0 → Tns (turnL l i) ks m → Tns l (k :: ks) m
/-- what is ahead of the rest is a vine -/
structure Vin (pre : PL) (d : Nat) : Prop where
  len : pre.length = d
  dp : ∀ i, i < d → dp pre i = (i : Int)
theorem Vin.snoc {pre : PL} {d : Nat} (h : Vin pre d) (k : Int) : Vin (pre ++ [(k, (d : Int))]) (d + 1) := by
  refine ⟨by simp [h.len], fun i hi => ?_⟩
  rcases Nat.lt_or_ge i d with h1 | h1
  · rw [dp_left (by rw [h.len]; exact h1)]
    exact h.dp i h1
  · obtain rfl : i = d := by omega
    rw [dp_right (by rw [h.len]; exact Nat.le_refl _), h.len, Nat.sub_self]
    rfl
/-- the vine of a tree, behind what is one already -/
def vsp (pre : PL) (d : Nat) : List Int → PL
  | [] => pre
  | k :: t => vsp (pre ++ [(k, (d : Int))]) (d + 1) t
theorem vsp_vin : ∀ {ks : List Int} {pre : PL} {d : Nat}, Vin pre d → Vin (vsp pre d ks) (d + ks.length)
  | [], _, _, h => h
  | k :: t, pre, d, h => by
    have := vsp_vin (ks := t) (h.snoc k)
    rw [List.length_cons, show d + (t.length + 1) = d + 1 + t.length by omega]
    exact this
theorem vsp_keys : ∀ (ks : List Int) (pre : PL) (d : Nat), (vsp pre d ks).map Prod.fst = pre.map Prod.fst ++ ks
  | [], pre, d => by simp [vsp]
  | k :: t, pre, d => by
    rw [vsp, vsp_keys t]
    simp
/-- STOUT, WARREN: from each tree to the vine by the keys that are told -/
theorem tns_vine : ∀ (n : Nat) (t : Tr) (pre : PL) (d : Nat), 2 * t.size - t.rsp ≤ n → Ctx 0 (d : Int) pre [] → Vin pre d → Tns (pre ++ t.sp d) (vks t) (vsp pre d t.ks)
  | n, .nil, pre, d, _, _, _ => by
    simp only [Tr.sp, vks, Tr.ks, List.append_nil, vsp]
    exact .nil
  | 0, .node a k b, pre, d, hn, _, _ => by
    have := vks_length (.node a k b)
    simp only [Tr.size, Tr.rsp] at hn this
    omega
  | n + 1, .node .nil k b, pre, d, hn, hc, hv => by
    have hr : pre ++ (Tr.node .nil k b).sp d = (pre ++ [(k, (d : Int))]) ++ b.sp ((d + 1 : Nat) : Int) := by simp [Tr.sp]
    have hc2 : Ctx 0 ((d + 1 : Nat) : Int) (pre ++ [(k, (d : Int))]) [] := by
      have := Ctx.right .nil k hc
      simp only [Tr.sp, List.append_nil] at this
      exact this
    have hsp := vks_length b
    have := tns_vine n b (pre ++ [(k, (d : Int))]) (d + 1) (by simp only [Tr.size, Tr.rsp] at hn; omega) hc2 (hv.snoc k)
    rw [hr, vks_right]
    have hk : (Tr.node .nil k b).ks = k :: b.ks := rfl
    rw [hk, vsp]
    exact this
  | n + 1, .node (.node a k b) p c, pre, d, hn, hc, hv => by
    have hl : LL (pre ++ (Tr.node (.node a k b) p c).sp d) (pre.length + a.size) (pre.length + (a.size + 1 + b.size)) d a k b p c pre [] := ⟨hc, by simp, rfl, rfl⟩
    have ht := hl.turn
    rw [List.append_nil] at ht
    have hroot := hl.at_i.root
    have hlen := hl.at_i.len
    have hks : (Tr.node a k (.node b p c)).ks = (Tr.node (.node a k b) p c).ks := by simp [Tr.ks]
    have hsp := vks_length (.node (.node a k b) p c)
    have ih := tns_vine n (.node a k (.node b p c)) pre d (by simp only [Tr.size, Tr.rsp] at hn hsp ⊢; omega) hc hv
    rw [vks_turn, ← hks]
    refine .cons (i := pre.length + a.size) ?_ hroot.2 ?_ ?_
    · simp [sp_length, Tr.size]
      omega
    · rw [hroot.1]
      omega
    · rw [ht]
      exact ih
theorem vine_turns (t : Tr) : Tns (t.sp 0) (vks t) (vsp [] 0 t.ks) := by
  have := tns_vine _ t [] 0 (Nat.le_refl _) .hole ⟨rfl, fun i hi => by omega⟩
  simpa using this
theorem vine_dp (t : Tr) : (vsp [] 0 t.ks).length = t.size ∧ ∀ i, i < t.size → dp (vsp [] 0 t.ks) i = (i : Int) := by
  have h := vsp_vin (ks := t.ks) (pre := []) (d := 0) ⟨rfl, fun i hi => by omega⟩
  rw [ks_length, Nat.zero_add] at h
  exact ⟨h.len, h.dp⟩
/-- each turn keeps it a tree of the same keys -/
theorem tns_tree {l m : PL} {ks : List Int} (h : Tns l ks m) : IsTree l → IsTree m ∧ m.length = l.length ∧ ∀ x, ky m x = ky l x := by
  induction h with
  | nil => exact fun h => ⟨h, rfl, fun _ => rfl⟩
  | @cons l m k ks i hi _ hd _ ih =>
    intro hl
    obtain ⟨j, _, ht⟩ := turned_of hl hi hd
    obtain ⟨h1, h2, h3⟩ := ih ht.tree
    exact ⟨h1, by rw [h2, ht.len], fun x => by rw [h3, ht.keys]⟩

/-- how many come up where a vine is pressed, all told -/
def evUp (j n : Nat) : Nat := (n + 1 - 2 ^ j) + upJ j
theorem evUp_le {j n : Nat} (h : 2 ^ j ≤ n + 1) : evUp j n ≤ n := by
  have := upJ_le j
  unfold evUp
  omega
/-- how many stand at a Depth -/
def rowc (l : PL) (d : Int) : Nat := l.countP fun p => p.2 == d
theorem rowc_app (x y : PL) (d : Int) : rowc (x ++ y) d = rowc x d + rowc y d := by simp [rowc]
theorem rowc_cons (p : Int × Int) (y : PL) (d : Int) : rowc (p :: y) d = rowc y d + (if p.2 = d then 1 else 0) := by
  unfold rowc
  rw [List.countP_cons]
  simp
theorem rowc_sp (t : Tr) : ∀ (e : Int) (d : Nat), rowc (t.sp e) (e + d) = t.row d := by
  induction t with
  | nil => intro e d; cases d <;> rfl
  | node a k b iha ihb =>
    intro e d
    rw [Tr.sp, rowc_app, rowc_cons]
    have low : ∀ (u : Tr), rowc (u.sp (e + 1)) e = 0 := fun u => by
      unfold rowc
      rw [List.countP_eq_zero]
      intro p hp
      have hge : ∀ (u : Tr) (d : Int) (q : Int × Int), q ∈ u.sp d → d ≤ q.2 := fun u => by
        induction u with
        | nil => intro d q h; simp [Tr.sp] at h
        | node a k b iha ihb =>
          intro d q h
          simp only [Tr.sp, List.mem_append, List.mem_cons] at h
          rcases h with h | h | h
          · have := iha (d + 1) q h; omega
          · rw [h]; exact Int.le_refl _
          · have := ihb (d + 1) q h; omega
      have := hge u (e + 1) p hp
      simp
      omega
    cases d with
    | zero =>
      have h0 : e + ((0 : Nat) : Int) = e := by simp
      rw [h0, low a, low b]
      simp [Tr.row]
    | succ d =>
      have h1 : e + ((d + 1 : Nat) : Int) = e + 1 + (d : Int) := by omega
      rw [h1, iha, ihb, if_neg (by simp only; omega)]
      simp [Tr.row]
/-- but for the lowest row each is full -/
theorem bal_rows {h : Nat} {t : Tr} (hb : Bal h t) {d : Nat} (hd : d + 1 < t.tall) : rowc (t.sp 0) (d : Int) = 2 ^ d := by
  have h1 := rowc_sp t 0 d
  rw [Int.zero_add] at h1
  rw [h1]
  exact bal_full hb d (by have := bal_tall hb; omega)

end Go.Proofs.YtpnjnedfcdppaaaGreatDoor
