/-
  hedgref.Asked: what a tree costs, each part by itself.
-/
import Derived.Test.YtconegligedniaaBTO
namespace Go.Proofs.Ytconegligedniaa
open Go.RowKit

theorem ask_bd {hits gaps : List Int} (hh : ∀ q : Nat, 0 ≤ hits[q]?.getD 0 ∧ hits[q]?.getD 0 ≤ 1000) (hg : ∀ q : Nat, 0 ≤ gaps[q]?.getD 0 ∧ gaps[q]?.getD 0 ≤ 1000) : ∀ (t : Tr) (i d : Nat), d + t.size ≤ 200 → 0 ≤ t.ask hits gaps i d ∧ t.ask hits gaps i d ≤ 201000 * (2 * (t.size : Int) + 1) := by
  intro t
  induction t with
  | nil =>
    intro i d h
    have := mul_bd2 (x := gaps[i]?.getD 0) (y := (d : Int)) (hg i) (by omega)
    show 0 ≤ gaps[i]?.getD 0 * (d : Int) ∧ gaps[i]?.getD 0 * (d : Int) ≤ _
    simp only [Tr.size]
    omega
  | node a k b iha ihb =>
    intro i d h
    simp only [Tr.size] at h
    have h1 := iha i (d + 1) (by omega)
    have h2 := ihb (k.toNat + 1) (d + 1) (by omega)
    have h3 := mul_bd2 (x := hits[k.toNat]?.getD 0) (y := (d : Int) + 1) (hh _) (by omega)
    rw [show ((d + 1 : Nat) : Int) = (d : Int) + 1 by omega] at h1 h2
    show 0 ≤ hits[k.toNat]?.getD 0 * ((d : Int) + 1) + a.ask hits gaps i ((d : Int) + 1) + b.ask hits gaps (k.toNat + 1) ((d : Int) + 1) ∧ hits[k.toNat]?.getD 0 * ((d : Int) + 1) + a.ask hits gaps i ((d : Int) + 1) + b.ask hits gaps (k.toNat + 1) ((d : Int) + 1) ≤ _
    simp only [Tr.size]
    omega

set_option maxRecDepth 100000 in
set_option maxHeartbeats 8000000 in
theorem asked_any (A A' : Option Addr) (n c c' : Nat) (hits gaps : List Int) (hI : InB hits gaps n) : ∀ (t : Tr) (q : Option Addr) (i j d : Nat) (w : World), RT w q t → Rng t i j → j ≤ n → IS w A n c hits → IS w A' (n + 1) c' gaps → d + t.size ≤ 200 →
    Calls Try.prog 18 #[.pointer q, .slice A n c, .slice A' (n + 1) c', I i, I d] w fun e w' => e = .returned (I (t.ask hits gaps i d)) ∧ ∃ m, w' = w.drewN m := by
  have hhb : ∀ q : Nat, 0 ≤ hits[q]?.getD 0 ∧ hits[q]?.getD 0 ≤ 1000 := fun q => by
    rcases Nat.lt_or_ge q hits.length with hq | hq
    · rw [List.getElem?_eq_getElem hq]; exact hI.hh _ (List.getElem_mem hq)
    · rw [List.getElem?_eq_none hq]; simp
  have hgb : ∀ q : Nat, 0 ≤ gaps[q]?.getD 0 ∧ gaps[q]?.getD 0 ≤ 1000 := fun q => by
    rcases Nat.lt_or_ge q gaps.length with hq | hq
    · rw [List.getElem?_eq_getElem hq]; exact hI.hg _ (List.getElem_mem hq)
    · rw [List.getElem?_eq_none hq]; simp
  have hn := hI.n20
  intro t
  induction t with
  | nil =>
    intro q i j d w hr hrg hj h h' hd
    obtain rfl : q = none := hr
    have hij : i ≤ n := by have := rng_le hrg; omega
    have hil : i < gaps.length := by rw [hI.g]; omega
    obtain ⟨b, off, rfl, hb, hcs⟩ := h'.at_ (by omega)
    have hc0 := hcs i (by omega)
    have hgi := hgb i
    rw [List.getElem?_eq_getElem hil, Option.getD_some] at hgi
    have HE : Hid (Tr.nil.ask hits gaps i d = gaps[i] * (d : Int)) := by
      show gaps[i]?.getD 0 * (d : Int) = _
      rw [List.getElem?_eq_getElem hil, Option.getD_some]
    generalize gaps[i] = g at *
    have hm := mul_bd2 (x := g) (y := (d : Int)) hgi (by simp only [Tr.size] at hd; omega)
    have e1 : IntKind.i64.wrap (g * (d : Int)) = g * (d : Int) := IntWalk.i64_in _ (by omega)
    clear hrg h h' hcs hI hhb hgb
    go_enter Try.func18, Try.ntmps18
    go_wp2
    go_ret
    exact ⟨by rw [HE.out]; rfl, 0, rfl⟩
  | node a k b iha ihb =>
    intro q i j d w hr hrg hj h h' hd
    obtain ⟨g, qa, qb, rfl, hg, hra, hrb⟩ := hr
    obtain ⟨hk0, hrg1, hrg2⟩ := hrg
    have hl1 := rng_le hrg1
    have hl2 := rng_le hrg2
    obtain ⟨x, rfl⟩ : ∃ x : Nat, k = x := ⟨k.toNat, by omega⟩
    rw [Int.toNat_natCast] at hrg1 hrg2 hl1 hl2
    simp only [Tr.size] at hd
    have ba := ask_bd hhb hgb a i (d + 1) (by omega)
    have bb := ask_bd hhb hgb b (x + 1) (d + 1) (by omega)
    obtain ⟨hlt, c0, c1, c2⟩ := tree_cells hg
    have hxl : x < hits.length := by rw [hI.h]; omega
    obtain ⟨bh, offh, hAe, hbh, hch⟩ := h.at_ (by omega)
    have hcx := hch x (by omega)
    have hxb := hhb x
    rw [List.getElem?_eq_getElem hxl, Option.getD_some] at hxb
    have HE : Hid ((Tr.node a (x : Int) b).ask hits gaps i d = hits[x] * ((d : Int) + 1) + a.ask hits gaps i ((d : Int) + 1) + b.ask hits gaps (x + 1) ((d : Int) + 1)) := by
      show hits[((x : Int)).toNat]?.getD 0 * ((d : Int) + 1) + a.ask hits gaps i ((d : Int) + 1) + b.ask hits gaps (((x : Int)).toNat + 1) ((d : Int) + 1) = _
      rw [Int.toNat_natCast, List.getElem?_eq_getElem hxl, Option.getD_some]
    have ed : ((d + 1 : Nat) : Int) = (d : Int) + 1 := by omega
    have ex : ((x + 1 : Nat) : Int) = (x : Int) + 1 := by omega
    have HC1 : Hid (∀ J, Calls Try.prog 18 #[.pointer qa, .slice A n c, .slice A' (n + 1) c', I i, I ((d : Int) + 1)] (w.drewN J) fun e w' => e = .returned (I (a.ask hits gaps i ((d : Int) + 1))) ∧ ∃ m, w' = (w.drewN J).drewN m) := fun J => by
      have := iha qa i x (d + 1) (w.drewN J) (hra.below (below_drewN (Below.refl _ _) J)) hrg1 (by omega) (h.below (below_drewN (Below.refl _ _) J)) (h'.below (below_drewN (Below.refl _ _) J)) (by omega)
      rw [ed] at this
      exact this
    have HC2 : Hid (∀ J, Calls Try.prog 18 #[.pointer qb, .slice A n c, .slice A' (n + 1) c', I ((x : Int) + 1), I ((d : Int) + 1)] (w.drewN J) fun e w' => e = .returned (I (b.ask hits gaps (x + 1) ((d : Int) + 1))) ∧ ∃ m, w' = (w.drewN J).drewN m) := fun J => by
      have := ihb qb (x + 1) j (d + 1) (w.drewN J) (hrb.below (below_drewN (Below.refl _ _) J)) hrg2 (by omega) (h.below (below_drewN (Below.refl _ _) J)) (h'.below (below_drewN (Below.refl _ _) J)) (by omega)
      rw [ed, ex] at this
      exact this
    rw [ed] at ba bb
    have hm := mul_bd2 (x := hits[x]) (y := (d : Int) + 1) hxb (by omega)
    subst hAe
    generalize hits[x] = hx at *
    generalize a.ask hits gaps i ((d : Int) + 1) = ya at *
    generalize b.ask hits gaps (x + 1) ((d : Int) + 1) = yb at *
    obtain ⟨P, hP⟩ : ∃ P, hx * ((d : Int) + 1) = P := ⟨_, rfl⟩
    rw [hP] at hm HE
    have e1 : IntKind.i64.wrap ((d : Int) + 1) = (d : Int) + 1 := IntWalk.i64_in _ (by omega)
    have e2 : IntKind.i64.wrap (hx * ((d : Int) + 1)) = P := by rw [hP]; exact IntWalk.i64_in _ (by omega)
    have e3 : IntKind.i64.wrap (P + ya) = P + ya := IntWalk.i64_in _ (by omega)
    have e4 : IntKind.i64.wrap (P + ya + yb) = P + ya + yb := IntWalk.i64_in _ (by omega)
    have e5 : IntKind.i64.wrap ((x : Int) + 1) = (x : Int) + 1 := IntWalk.i64_in _ (by omega)
    have hx1 : (x : Int) < (n : Int) := by omega
    have hx0 : 0 ≤ (x : Int) := by omega
    clear hg hra hrb h h' hch hrg1 hrg2 iha ihb hP hhb hgb hI ba bb hm hxb ed ex hl1 hl2 hd hxl hk0
    go_enter Try.func18, Try.ntmps18
    go_wp2
    go_quiet ((first | (go_at_call 18; with_reducible exact Calls.quiet_of (HC1.out _)) | (go_at_call 18; with_reducible exact Calls.quiet_of (HC2.out _))))
    go_wp2
    go_ret
    exact ⟨by rw [HE.out]; rfl, _, rfl⟩

end Go.Proofs.Ytconegligedniaa
