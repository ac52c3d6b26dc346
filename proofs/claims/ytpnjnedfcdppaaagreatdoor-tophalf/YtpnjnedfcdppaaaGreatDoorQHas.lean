/-
  package half: is a key there?
-/
import Derived.Test.YtpnjnedfcdppaaaGreatDoorQBits
namespace Go.Proofs.YtpnjnedfcdppaaaGreatDoor
open Go.RowKit Go.Maps

theorem QM.look_none {w : World} {T : Nat} {m : Option Nat} {Q : Int → Option Nat} (h : QM w T m Q) {k : Int} (hk : 0 ≤ k ∧ k ≤ 1000000) (e : Q k = none) :
    (Instr.lookup 214 (.map m) (I k) false).run Tryz.prog w = .ok (.pointer none) w := by
  have := h.look hk
  rw [e] at this
  exact this
theorem QM.look_some {w : World} {T : Nat} {m : Option Nat} {Q : Int → Option Nat} (h : QM w T m Q) {k : Int} (hk : 0 ≤ k ∧ k ≤ 1000000) {g : Nat} (e : Q k = some g) :
    (Instr.lookup 214 (.map m) (I k) false).run Tryz.prog w = .ok (.pointer (some ⟨g, 0, none⟩)) w := by
  have := h.look hk
  rw [e] at this
  exact this
theorem drewN_add (w : World) (a b : Nat) : (w.drewN a).drewN b = w.drewN (a + b) := by simp
theorem QR.drewN {n : Nat} {w : World} {T : Nat} {p : Option Nat} {S : KS} {F : Nat → Prop} (h : QR n w T p S F) (j : Nat) : QR n (w.drewN j) T p S F := h.keep fun _ _ => rfl
theorem QM.drewN {w : World} {T : Nat} {m : Option Nat} {Q : Int → Option Nat} (h : QM w T m Q) (j : Nat) : QM (w.drewN j) T m Q := h.keep fun _ _ => rfl

def HasR (S : KS) (key : Int) (w : World) (e : Ending) (w' : World) : Prop := (∃ b : Bool, e = .returned (.bool b) ∧ (b = true ↔ S key)) ∧ ∃ j, w' = w.drewN j
def HasC (n : Nat) : Prop := ∀ (p : Option Nat) (T : Nat) (S : KS) (F : Nat → Prop) (key : Int) (w : World), QR n w T p S F → 0 ≤ key → key < qq n →
  Calls Tryz.prog 150 #[qp p, I key] w (HasR S key w)

theorem has_nil (key : Int) (w : World) : Calls Tryz.prog 150 #[.pointer none, I key] w fun e w' => e = .returned (.bool false) ∧ w' = w := by
  go_enter Tryz.func150, Tryz.ntmps150
  go_wp2
  go_ret
  exact ⟨rfl, rfl⟩
/-- at the ends, and out of them -/
theorem has_ends {h g : Nat} {lo hi : Int} {m hq : Option Nat} {S : KS} (key : Int) (w : World) (hb : QN w g h lo hi m hq) (he : QEnds S lo hi) (hk : key ≤ lo ∨ hi ≤ key) :
    Calls Tryz.prog 150 #[.pointer (some ⟨g, 0, none⟩), I key] w (HasR S key w) := by
  have c1 := hb.c1
  have c2 := hb.c2
  have h12 := (he.2.2 _ he.1).2
  have HE := Lib.hid he
  clear hb he
  by_cases h1 : key < lo
  · have HU := Lib.hid (show (false = true ↔ S key) from ⟨fun e => absurd e Bool.false_ne_true, fun e => by have := HE.out.2.2 _ e; omega⟩)
    go_enter Tryz.func150, Tryz.ntmps150
    go_wp2
    go_ret
    exact ⟨⟨_, rfl, HU.out⟩, 0, rfl⟩
  · by_cases h2 : hi < key
    · have HU := Lib.hid (show (false = true ↔ S key) from ⟨fun e => absurd e Bool.false_ne_true, fun e => by have := HE.out.2.2 _ e; omega⟩)
      go_enter Tryz.func150, Tryz.ntmps150
      go_wp2
      go_ret
      exact ⟨⟨_, rfl, HU.out⟩, 0, rfl⟩
    · have HU := Lib.hid (show S key by
        rcases hk with e | e
        · have : key = lo := by omega
          rw [this]; exact HE.out.1
        · have : key = hi := by omega
          rw [this]; exact HE.out.2.1)
      by_cases h3 : key = lo
      · subst h3
        go_enter Tryz.func150, Tryz.ntmps150
        go_wp2
        go_ret
        exact ⟨⟨_, rfl, ⟨fun _ => HU.out, fun _ => rfl⟩⟩, 0, rfl⟩
      · have h4 : key = hi := by omega
        subst h4
        clear hk h1 h2
        go_enter Tryz.func150, Tryz.ntmps150
        go_wp2
        go_ret
        exact ⟨⟨_, rfl, ⟨fun _ => HU.out, fun _ => rfl⟩⟩, 0, rfl⟩
theorem has_zero : HasC 0 := by
  intro p T S F key w h h0 h1
  cases p with
  | none => exact (has_nil key w).mono fun e w' ⟨a, b⟩ => ⟨⟨false, a, ⟨fun e => absurd e Bool.false_ne_true, fun e => absurd e (QR.none_iff.1 h key)⟩⟩, 0, b⟩
  | some g =>
    obtain ⟨lo, hi, hb, he, hbd, _⟩ := h
    have a := hbd lo he.1
    have b := hbd hi he.2.1
    have h1' : key < 2 := h1
    exact has_ends key w hb he (by omega)
set_option maxHeartbeats 2000000 in
theorem has_succ {n : Nat} (hn : n ≤ 3) (ih : HasC n) : HasC (n + 1) := by
  intro p T S F key w h h0 h1
  cases p with
  | none => exact (has_nil key w).mono fun e w' ⟨a, b⟩ => ⟨⟨false, a, ⟨fun e => absurd e Bool.false_ne_true, fun e => absurd e (QR.none_iff.1 h key)⟩⟩, 0, b⟩
  | some g =>
    obtain ⟨lo, hi, m, hq, Q, FH, FP, hb, he, hbd, hF, y⟩ := h.open1
    by_cases hk : key ≤ lo ∨ hi ≤ key
    · exact has_ends key w hb he hk
    have hl1 : ¬ key < lo := by omega
    have hl2 : ¬ hi < key := by omega
    have hl3 : ¬ key = lo := by omega
    have hl4 : ¬ key = hi := by omega
    have c1 := hb.c1
    have c2 := hb.c2
    have c3 := hb.c3
    have hqp := qq_pos n
    have h1' : key < qq n * qq n := h1
    have h6 := qq_le4 (show n + 1 ≤ 4 by omega)
    have h61 : qq (n + 1) = qq n * qq n := rfl
    have h7 := qq_le hn
    obtain ⟨d0, d1⟩ := qdiv_bd hqp h0 h1'
    obtain ⟨r0, r1⟩ := qmod_bd hqp key
    have HSP := Lib.hid (split_any hn w hb h0 (by omega))
    have HU := Lib.hid (show QLo (qq n) (QCut S lo) (key / qq n) (key % qq n) ↔ S key from qlo_iff.trans ⟨fun h => h.1, fun h => ⟨h, hl3⟩⟩)
    have HX := Lib.hid (fun j => ih (Q (key / qq n)) T (QLo (qq n) (QCut S lo) (key / qq n)) (FP (key / qq n)) (key % qq n) (w.drewN j) ((y.qp _).drewN j) r0 r1)
    have HQ : Hid (∀ j, (Instr.lookup 214 (.map m) (I (key / qq n)) false).run Tryz.prog (w.drewN j) = .ok (qp (Q (key / qq n))) (w.drewN j)) := fun j => (y.qm.drewN j).look ⟨d0, by omega⟩
    have hl5 : (key == lo) = false := by simpa using hl3
    have hl6 : (key == hi) = false := by simpa using hl4
    clear h y hb he hbd hk h1 h1' h61
    generalize key / qq n = x at *
    generalize key % qq n = z at *
    obtain ⟨pv, hpv⟩ : ∃ pv, qp (Q x) = pv := ⟨_, rfl⟩
    rw [hpv] at HX HQ
    show Calls Tryz.prog 150 #[.pointer (some ⟨g, 0, none⟩), I key] w (HasR S key w)
    go_enter Tryz.func150, Tryz.ntmps150
    go_wp2_with fail
    refine HSP.out.mono ?_
    rintro e w1 ⟨rfl, j, rfl⟩
    have hlook := HQ.out j
    go_wp2_with fail
    refine (HX.out j).mono ?_
    rintro e w2 ⟨⟨b, rfl, hb⟩, j2, rfl⟩
    have HB := Lib.hid hb
    clear hb
    go_wp2
    go_ret
    exact ⟨⟨b, rfl, HB.out.trans HU.out⟩, _, rfl⟩
theorem has_any : ∀ n, n ≤ 4 → HasC n
  | 0, _ => has_zero
  | n + 1, h => has_succ (by omega) (has_any n (by omega))

end Go.Proofs.YtpnjnedfcdppaaaGreatDoor
