/-
  slices.Equal at Ans.
-/
import Derived.Test.YtolfpjleckckiaaEqAll
namespace Go.Proofs.Ytolfpjleckckiaa
open Go.RowKit

theorem An.ext' {a b : An} (h0 : a.e = b.e) (h1 : a.k = b.k) (h2 : a.v = b.v) (h3 : a.b = b.b) : a = b := by cases a; cases b; simp_all
instance : DecidableEq An := fun a b => decidable_of_iff (a.e = b.e ∧ a.k = b.k ∧ a.v = b.v ∧ a.b = b.b) ⟨fun h => An.ext' h.1 h.2.1 h.2.2.1 h.2.2.2, fun h => by subst h; simp⟩

def af (l : List An) (i j : Nat) : Value := if j = 0 then I (l[i]?.getD an0).e else if j = 1 then I (l[i]?.getD an0).k else if j = 2 then I (l[i]?.getD an0).v else .bool (l[i]?.getD an0).b
/-- a slice of answers -/
structure AS (w : World) (A : Option Addr) (n c : Nat) (l : List An) : Prop where
  len : l.length = n
  rd : Rd w w.heap.size 4 A n c (af l)
theorem AS.below {w w' : World} {n c : Nat} {A : Option Addr} {l : List An} (h : AS w A n c l) (hb : Below w.heap.size w w') : AS w' A n c l := ⟨h.len, h.rd.below hb⟩
theorem AS.at_ {w : World} {n c : Nat} {A : Option Addr} {l : List An} (h : AS w A n c l) (hn : 0 < n) :
    ∃ b off, A = some ⟨b, off, none⟩ ∧ b < w.heap.size ∧ ∀ i (hi : i < n), w.cell? ⟨b, off + i * 4, none⟩ = some (I (l[i]'(by rw [h.len]; exact hi)).e) ∧ w.cell? ⟨b, off + (i * 4 + 1), none⟩ = some (I (l[i]'(by rw [h.len]; exact hi)).k) ∧
      w.cell? ⟨b, off + (i * 4 + 2), none⟩ = some (I (l[i]'(by rw [h.len]; exact hi)).v) ∧ w.cell? ⟨b, off + (i * 4 + 3), none⟩ = some (.bool (l[i]'(by rw [h.len]; exact hi)).b) := by
  obtain ⟨b, off, e, hb, hc⟩ := h.rd.2 hn
  refine ⟨b, off, e, hb, fun i hi => ?_⟩
  have hl : i < l.length := by rw [h.len]; exact hi
  have h0 := hc i hi 0 (by omega)
  have h1 := hc i hi 1 (by omega)
  have h2 := hc i hi 2 (by omega)
  have h3 := hc i hi 3 (by omega)
  simp [af, List.getElem?_eq_getElem hl] at h0 h1 h2 h3
  exact ⟨h0, h1, h2, h3⟩

set_option maxHeartbeats 1000000 in
theorem eqAns_any (A A' : Option Addr) (n n' c c' : Nat) (l m : List An) (w : World) (h : AS w A n c l) (h' : AS w A' n' c' m) (hn : n ≤ 1000000) (hn' : n' ≤ 1000000) :
    Calls Try.prog 13 #[.slice A n c, .slice A' n' c'] w fun e w' => e = .returned (.bool (decide (l = m))) ∧ Below w.heap.size w w' := by
  have H := Lib.hid h
  have H' := Lib.hid h'
  clear h h'
  by_cases hnn : n = n'
  · subst hnn
    have hne : ((n : Int) != (n : Int)) = false := by simp
    go_enter Try.func13, Try.ntmps13
    go_wp2
    go_loopw [13] (fun i wr => ∃ k : Nat, k ≤ n ∧ i = .int .i64 k ∧ sameTo l m k ∧ Below w.heap.size w wr) (fun i _ => n - (intOf i).toNat)
    case atStart => exact ⟨0, Nat.zero_le _, rfl, fun i hi => absurd hi (by omega), Below.refl _ _⟩
    case round =>
      obtain ⟨k, hk, rfl, hsame, hnx⟩ := hrel
      have hsz := hnx.size
      by_cases hlt : k < n
      · obtain ⟨b, off, rfl, hb, hc⟩ := H.out.at_ (by omega)
        obtain ⟨b', off', rfl, hb', hc'⟩ := H'.out.at_ (by omega)
        have hkl : k < l.length := by have := H.out.len; omega
        have hkm : k < m.length := by have := H'.out.len; omega
        have hc0 : wr.cell? ⟨b, off + k * 4, none⟩ = some (I l[k].e) := (hnx.cell (by exact hb)).trans (hc k hlt).1
        have hc1 : wr.cell? ⟨b, off + k * 4 + 1, none⟩ = some (I l[k].k) := (hnx.cell (by exact hb)).trans (hc k hlt).2.1
        have hc2 : wr.cell? ⟨b, off + k * 4 + 2, none⟩ = some (I l[k].v) := (hnx.cell (by exact hb)).trans (hc k hlt).2.2.1
        have hc3 : wr.cell? ⟨b, off + k * 4 + 3, none⟩ = some (Value.bool l[k].b) := (hnx.cell (by exact hb)).trans (hc k hlt).2.2.2
        have hd0 : wr.cell? ⟨b', off' + k * 4, none⟩ = some (I m[k].e) := (hnx.cell (by exact hb')).trans (hc' k hlt).1
        have hd1 : wr.cell? ⟨b', off' + k * 4 + 1, none⟩ = some (I m[k].k) := (hnx.cell (by exact hb')).trans (hc' k hlt).2.1
        have hd2 : wr.cell? ⟨b', off' + k * 4 + 2, none⟩ = some (I m[k].v) := (hnx.cell (by exact hb')).trans (hc' k hlt).2.2.1
        have hd3 : wr.cell? ⟨b', off' + k * 4 + 3, none⟩ = some (Value.bool m[k].b) := (hnx.cell (by exact hb')).trans (hc' k hlt).2.2.2
        clear hc hc'
        by_cases heq : l[k] = m[k]
        · have HS : Hid (sameTo l m (k + 1)) := sameTo_succ hsame (by rw [List.getElem?_eq_getElem hkl, List.getElem?_eq_getElem hkm, heq])
          have hb0 : (l[k].e == m[k].e) = true := by simp [heq]
          have hb1 : (l[k].k == m[k].k) = true := by simp [heq]
          have hb2 : (l[k].v == m[k].v) = true := by simp [heq]
          have hb3 : (l[k].b == m[k].b) = true := by simp [heq]
          have HE := Lib.hid heq
          clear heq hsame
          go_wp2
          go_quiet (fail)
          go_wp2
          go_roundw
          case rel => exact ⟨k + 1, by omega, by go_num, HS.out, below_drewN hnx _⟩
          case measure => simp [intOf]; omega
        · have HF : Hid (decide (l = m) = false) := by
            refine decide_eq_false ?_
            intro e
            subst e
            exact heq rfl
          have hne2 : ¬ (l[k].e = m[k].e ∧ l[k].k = m[k].k ∧ l[k].v = m[k].v ∧ l[k].b = m[k].b) := fun h => heq (An.ext' h.1 h.2.1 h.2.2.1 h.2.2.2)
          clear heq hsame
          by_cases h0 : l[k].e = m[k].e
          case neg =>
            have hb0 : (l[k].e == m[k].e) = false := by simp [h0]
            clear hne2 h0
            go_wp2
            go_quiet (fail)
            go_wp2
            go_ret
            exact ⟨by rw [HF.out]; rfl, below_drewN hnx _⟩
          by_cases h1 : l[k].k = m[k].k
          case neg =>
            have hb0 : (l[k].e == m[k].e) = true := by simp [h0]
            have hb1 : (l[k].k == m[k].k) = false := by simp [h1]
            clear hne2 h0 h1
            go_wp2
            go_quiet (fail)
            go_wp2
            go_ret
            exact ⟨by rw [HF.out]; rfl, below_drewN hnx _⟩
          by_cases h2 : l[k].v = m[k].v
          case neg =>
            have hb0 : (l[k].e == m[k].e) = true := by simp [h0]
            have hb1 : (l[k].k == m[k].k) = true := by simp [h1]
            have hb2 : (l[k].v == m[k].v) = false := by simp [h2]
            clear hne2 h0 h1 h2
            go_wp2
            go_quiet (fail)
            go_wp2
            go_ret
            exact ⟨by rw [HF.out]; rfl, below_drewN hnx _⟩
          have hb0 : (l[k].e == m[k].e) = true := by simp [h0]
          have hb1 : (l[k].k == m[k].k) = true := by simp [h1]
          have hb2 : (l[k].v == m[k].v) = true := by simp [h2]
          have hb3 : (l[k].b == m[k].b) = false := by simpa using fun h3 => hne2 ⟨h0, h1, h2, h3⟩
          clear hne2 h0 h1 h2
          go_wp2
          go_quiet (fail)
          go_wp2
          go_ret
          exact ⟨by rw [HF.out]; rfl, below_drewN hnx _⟩
      · have HF : Hid (decide (l = m) = true) := decide_eq_true (eq_step H.out.len H'.out.len (by omega) hsame)
        clear hsame
        go_wp2
        go_ret
        exact ⟨by rw [HF.out]; rfl, hnx⟩
  · have HF : Hid (decide (l = m) = false) := by
      refine decide_eq_false ?_
      intro e
      subst e
      exact hnn (H.out.len.symm.trans H'.out.len)
    have hne : ((n : Int) != (n' : Int)) = true := by simp; omega
    clear hnn
    go_enter Try.func13, Try.ntmps13
    go_wp2
    go_ret
    exact ⟨by rw [HF.out]; rfl, Below.refl _ _⟩

end Go.Proofs.Ytolfpjleckckiaa
