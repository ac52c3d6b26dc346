/-
  package vine: topFrom, fullUpTo, wayRight.
-/
import Derived.Test.YtjonepkdkhhonaaSChk
import Derived.Test.YtjonepkdkhhonaaSRow
import Derived.Test.YtjonepkdkhhonaaInts
import Derived.Test.YtjonepkdkhhonaaVTurn
import Derived.IntWalk
import Derived.Deep.LoopGhost
namespace Go.Proofs.Ytjonepkdkhhonaa
open Go.RowKit

/-- the top of those from r on, up to k -/
def TopFr (l : PL) (r k j : Nat) : Prop := r ≤ j ∧ (∀ i, r ≤ i → i < k → dp l j ≤ dp l i) ∧ ∀ i, r ≤ i → i < j → dp l j < dp l i
theorem topFr_less {l : PL} {r k j : Nat} (h : TopFr l r k j) (hk : r ≤ k) (hd : dp l k < dp l j) : TopFr l r (k + 1) k := by
  refine ⟨hk, fun i hr hi => ?_, fun i hr hi => ?_⟩
  · rcases Nat.lt_or_ge i k with h1 | h1
    · have := h.2.1 i hr h1; omega
    · obtain rfl : i = k := by omega
      exact Int.le_refl _
  · have := h.2.1 i hr hi; omega
theorem topFr_same {l : PL} {r k j : Nat} (h : TopFr l r k j) (hd : ¬ dp l k < dp l j) : TopFr l r (k + 1) j := by
  refine ⟨h.1, fun i hr hi => ?_, h.2.2⟩
  rcases Nat.lt_or_ge i k with h1 | h1
  · exact h.2.1 i hr h1
  · obtain rfl : i = k := by omega
    omega
theorem topFr_one {l : PL} {r n i j : Nat} (h : TopFr l r n i) (h' : TopFr l r n j) (hi : i < n) (hj : j < n) : i = j := by
  obtain ⟨a1, a2, a3⟩ := h
  obtain ⟨b1, b2, b3⟩ := h'
  rcases Nat.lt_trichotomy i j with h | h | h
  · have := b3 i a1 h; have := a2 j b1 hj; omega
  · exact h
  · have := a3 j b1 h; have := b2 i a1 hi; omega
/-- behind what is ahead the top of a tree is found -/
theorem topFr_sp (pre post : PL) (a b : Tr) (k d : Int) : TopFr (pre ++ (Tr.node a k b).sp d ++ post) pre.length (pre.length + (Tr.node a k b).size) (pre.length + a.size) := by
  have hr := (sp_root a b k d).1
  have e : ∀ i, pre.length ≤ i → i < pre.length + (Tr.node a k b).size → dp (pre ++ (Tr.node a k b).sp d ++ post) i = dp ((Tr.node a k b).sp d) (i - pre.length) := fun i h1 h2 => dp_in3 _ _ _ _ h1 (by rw [sp_length]; exact h2)
  have hs : (Tr.node a k b).size = a.size + 1 + b.size := rfl
  have e0 : dp (pre ++ (Tr.node a k b).sp d ++ post) (pre.length + a.size) = d := by
    rw [e _ (by omega) (by omega), Nat.add_sub_cancel_left]
    exact hr
  refine ⟨by omega, fun i h1 h2 => ?_, fun i h1 h2 => ?_⟩
  · rw [e0, e i h1 h2]
    exact sp_ge _ d _ (by omega)
  · rw [e0, e i h1 (by omega)]
    exact sp_gt a b k d _ (by omega) (by omega)

set_option maxHeartbeats 1000000 in
theorem topFrom_any (A : Option Addr) (n c r j : Nat) (l : PL) (w : World) (h : PS w A n c l) (hn : n ≤ 1000) (hr : r < n) (hj : j < n) (ht : TopFr l r n j) :
    Calls Try.prog 28 #[.slice A n c, I r] w fun e w' => e = .returned (I j) ∧ Below w.heap.size w w' := by
  have HT := Lib.hid ht
  obtain ⟨b, off, rfl, hb, hc⟩ := h.dat (by omega)
  have HC := Lib.hid hc
  clear hc h ht
  go_enter Try.func28, Try.ntmps28
  go_wp2
  go_loopg [5, 6] n (fun m t i wr => ∃ k x : Nat, k ≤ n ∧ r ≤ k ∧ n - k ≤ m ∧ x < n ∧ i = .int .i64 k ∧ t = .int .i64 x ∧ TopFr l r k x ∧ Below w.heap.size w wr)
  case atStart => exact ⟨r, r, by omega, Nat.le_refl _, by omega, hr, rfl, rfl, ⟨Nat.le_refl _, fun i h1 h2 => absurd h1 (by omega), fun i h1 h2 => absurd h1 (by omega)⟩, Below.refl _ _⟩
  case round =>
    obtain ⟨k, x, hk, hrk, hkm, hx, rfl, rfl, htop, hnx⟩ := hrel
    by_cases hlt : k < n
    · have hc1 : wr.cell? ⟨b, off + k * 2 + 1, none⟩ = some (I (dp l k)) := (hnx.cell (by exact hb)).trans (HC.out k hlt).2
      have hj1 : wr.cell? ⟨b, off + x * 2 + 1, none⟩ = some (I (dp l x)) := (hnx.cell (by exact hb)).trans (HC.out x hx).2
      have HNX := Lib.hid hnx
      by_cases hd : dp l k < dp l x
      · have HF := Lib.hid (topFr_less htop hrk hd)
        clear htop hnx
        go_wp2
        go_quiet (fail)
        go_wp2
        go_roundg (n - (k + 1))
        case rel => exact ⟨k + 1, k, by omega, by omega, by omega, hlt, by go_num, rfl, HF.out, below_drewN HNX.out _⟩
        case measure => omega
      · have HF := Lib.hid (topFr_same htop hd)
        clear htop hnx
        go_wp2
        go_quiet (fail)
        go_wp2
        go_roundg (n - (k + 1))
        case rel => exact ⟨k + 1, x, by omega, by omega, by omega, hx, by go_num, rfl, HF.out, below_drewN HNX.out _⟩
        case measure => omega
    · obtain rfl : k = n := by omega
      have HF : Hid (x = j) := topFr_one htop HT.out hx hj
      have HNX := Lib.hid hnx
      clear htop hnx
      go_wp2
      go_ret
      exact ⟨ret_int (by rw [HF.out]), HNX.out⟩

set_option maxHeartbeats 1000000 in
theorem fullUpTo_any (n j : Nat) (w : World) (hn : n ≤ 1000) (h1 : 2 ^ j ≤ n + 1) (h2 : n + 1 < 2 ^ (j + 1)) :
    Calls Try.prog 26 #[I n] w fun e w' => e = .returned (I ((2 ^ j - 1 : Nat) : Int)) ∧ w' = w := by
  have H1 := Lib.hid h1
  have H2 := Lib.hid h2
  clear h1 h2
  go_enter Try.func26, Try.ntmps26
  go_wp2
  go_loopg [3] n (fun m v wr => ∃ i f : Nat, i ≤ j ∧ f + 1 = 2 ^ i ∧ f ≤ n ∧ n - f ≤ m ∧ v = .int .i64 f ∧ wr = w)
  case atStart => exact ⟨0, 0, by omega, rfl, by omega, by omega, rfl, rfl⟩
  case round =>
    obtain ⟨i, f, hi, hf, hfn, hfm, rfl, rfl⟩ := hrel
    have HF := Lib.hid hf
    have hp : 0 < 2 ^ i := Nat.two_pow_pos _
    clear hf
    by_cases hlt : 2 * f + 1 ≤ n
    · have HI : Hid (i + 1 ≤ j) := by
        show i + 1 ≤ j
        apply Classical.byContradiction
        intro hc
        obtain rfl : i = j := by omega
        have := H2.out
        rw [Nat.pow_succ] at this
        have := HF.out
        omega
      have e1 : IntKind.i64.wrap (2 * (f : Int)) = 2 * f := IntWalk.i64_in _ (by omega)
      have e2 : IntKind.i64.wrap (2 * (f : Int) + 1) = 2 * f + 1 := IntWalk.i64_in _ (by omega)
      have e3 : 2 * (f : Int) + 1 ≤ n := by omega
      clear hp
      go_wp2
      go_roundg (n - (2 * f + 1))
      case rel => exact ⟨i + 1, 2 * f + 1, HI.out, by have := HF.out; rw [Nat.pow_succ]; omega, by omega, by omega, by go_num, by first | rfl | trivial⟩
      case measure => omega
    · have e1 : IntKind.i64.wrap (2 * (f : Int)) = 2 * f := IntWalk.i64_in _ (by omega)
      have e2 : IntKind.i64.wrap (2 * (f : Int) + 1) = 2 * f + 1 := IntWalk.i64_in _ (by omega)
      have e3 : ¬ 2 * (f : Int) + 1 ≤ n := by omega
      have HI : Hid (i = j) := by
        show i = j
        apply Classical.byContradiction
        intro hc
        have h3 : 2 ^ (i + 1) ≤ 2 ^ j := Nat.pow_le_pow_right (by decide) (by omega)
        rw [Nat.pow_succ] at h3
        have := H1.out
        have := HF.out
        omega
      clear hp
      go_wp2
      go_ret
      refine ⟨ret_int ?_, rfl⟩
      have := HF.out
      rw [HI.out] at this
      omega

/-- the places on the way to the right -/
def wyR : Nat → Tr → List Int
  | _, .nil => []
  | o, .node a _ b => ((o + a.size : Nat) : Int) :: wyR (o + a.size + 1) b
theorem wyR_length : ∀ (t : Tr) (o : Nat), (wyR o t).length = t.rsp
  | .nil, _ => rfl
  | .node a k b, o => by simp [wyR, Tr.rsp, wyR_length b]
theorem rsp_le : ∀ t : Tr, t.rsp ≤ t.size
  | .nil => Nat.le_refl _
  | .node a k b => by
    have := rsp_le b
    simp only [Tr.rsp, Tr.size]
    omega

set_option maxRecDepth 100000 in
set_option maxHeartbeats 1000000 in
theorem wayRight_any (A : Option Addr) (n c : Nat) (t : Tr) (w : World) (h : PS w A n c (t.sp 0)) (hn : n ≤ 200) :
    Calls Try.prog 31 #[.slice A n c] w fun e w' => ∃ v, e = .returned v ∧ OwnI w' w.heap.size v (wyR 0 t) ∧ Below w.heap.size w w' := by
  have H := Lib.hid h
  have hsz : t.size = n := by rw [← sp_length t 0, h.len]
  have HSZ := Lib.hid hsz
  clear h hsz
  obtain ⟨i0, hi, hz0, hz1, hz2⟩ := info_parts int_info
  have HI := Lib.hid hi
  have HZ0 := Lib.hid hz0
  have HZ1 := Lib.hid hz1
  have HZ2 := Lib.hid hz2
  clear hi hz0 hz1 hz2
  go_enter Try.func31, Try.ntmps31
  go_wp2
  go_loopg [3, 4] n (fun m v i wr => ∃ (k : Nat) (pre : PL) (s : Tr) (d : Int) (xs : List Int), i = .int .i64 k ∧ k ≤ n ∧ n - k ≤ m ∧ pre.length = k ∧ t.sp 0 = pre ++ s.sp d ++ [] ∧ xs.length ≤ k ∧ wyR 0 t = xs ++ wyR k s ∧ OwnI wr w.heap.size v xs ∧ Below w.heap.size w wr)
  case atStart => exact ⟨0, [], t, 0, [], rfl, Nat.zero_le _, by omega, rfl, by simp, by simp, rfl, World.ownsRow_nil _ _ _ _, Below.refl _ _⟩
  case round =>
    obtain ⟨k, pre, s, d, xs, rfl, hk, hkm, hpl, hsp, hxk, hwy, hown, hnx⟩ := hrel
    have HSP := Lib.hid hsp
    have HW := Lib.hid hwy
    have HO := Lib.hid hown
    have HNX := Lib.hid hnx
    have HPL := Lib.hid hpl
    have hss : k + s.size = n := by
      have := congrArg List.length hsp
      rw [sp_length, HSZ.out] at this
      simp [sp_length, hpl] at this
      omega
    have HSS := Lib.hid hss
    clear hsp hwy hown hnx hpl
    cases s with
    | nil =>
      have hkn : ¬ k < n := by simp only [Tr.size] at hss; omega
      clear hss
      go_wp2
      go_ret
      refine ⟨_, rfl, ?_, HNX.out⟩
      have := HW.out
      simp only [wyR, List.append_nil] at this
      rw [this]
      exact HO.out
    | node a x b =>
      have hsn : (Tr.node a x b).size = a.size + 1 + b.size := rfl
      have hkn : k < n := by omega
      obtain ⟨p, hp⟩ : ∃ p, k + a.size = p := ⟨_, rfl⟩
      have hpn : p < n := by omega
      have HTF : Hid (TopFr (t.sp 0) k n p) := by
        show TopFr _ _ _ _
        have := topFr_sp pre [] a b x d
        rw [← HSP.out, HPL.out, HSS.out, hp] at this
        exact this
      have HP := Lib.hid hp
      have hkp : k ≤ p := by omega
      have hz := HNX.out.size
      clear hss hsn hp
      go_wp2_with fail
      refine (topFrom_any A n c k p (t.sp 0) wr (H.out.below HNX.out) (by omega) hkn hpn HTF.out).mono ?_
      rintro e w1 ⟨rfl, hb1⟩
      have HB1 := Lib.hid (HNX.out.trans (hb1.mono hz))
      have HO1 := Lib.hid (own_below HO.out hb1)
      have hz1 := HB1.out.size
      have hpw : IntKind.i64.wrap ((p : Int) + 1) = p + 1 := IntWalk.i64_in _ (by omega)
      clear hb1
      go_wp2_with (first
        | (at_builtin
           refine wpList_append_own_at _ rfl (.tmp 13) (.tmp 15) 23 rfl w.heap.size 3 i0 _ 1 8 Try.underlying23 HI.out HZ0.out HZ1.out HZ2.out rfl (by omega) _ xs.length (xs.map I) rfl (own_below HO1.out ((Below.refl _ _).alloc (Nat.le_refl _) _)) ⟨w1.heap.size, 0, none⟩ 1 1 [I p] rfl rfl (by have := cell_one_new w1 (I p) 3; simpa using this) (one_I p) (by unfold maxLen; omega) (by omega) (by simp; omega) ?_
           intro v2 w2 hown2 hgrow2 _ hat2)
        | fail)
      go_roundg (n - (p + 1))
      case rel =>
        refine ⟨p + 1, pre ++ a.sp (d + 1) ++ [(x, d)], b, d + 1, xs ++ [(p : Int)], by go_num, by omega, by omega, ?_, ?_, ?_, ?_, ?_, ?_⟩
        · have := HP.out; have := HPL.out; simp [sp_length]; omega
        · rw [HSP.out]; simp [Tr.sp]
        · simp; omega
        · have := HW.out
          rw [this]
          simp only [wyR]
          rw [HP.out]
          simp
        · unfold OwnI
          simpa using hown2
        · exact Below.grown (HB1.out.alloc hz1 _) hgrow2 (by simp; omega) (own_ge1 HO1.out)
      case measure => omega

end Go.Proofs.Ytjonepkdkhhonaa
