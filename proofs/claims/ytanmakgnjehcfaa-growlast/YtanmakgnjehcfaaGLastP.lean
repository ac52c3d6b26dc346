/-
  Keys that come, and the last one goes: plain mathematics; hedgkeep.ok where something is wrong.
-/
import Derived.Test.YtanmakgnjehcfaaGLives
import Derived.Test.YtanmakgnjehcfaaOpRows
namespace Go.Proofs.Ytanmakgnjehcfaa
open Go.RowKit

abbrev ptO (x : Int) : OP := (1, x, 0)
theorem put_ok {t : Tr} {l : PL} (h : Same t l) {x : Int} (hx : x ∉ t.ks) (hr : 0 ≤ x ∧ x ≤ 1000000) (hl : l.length < 200) : doA l 1 x = an0 := by
  have ho : opB 1 x = true := by simp [opB, keyB, hr]
  have hg : ¬ (getR x l).isSome = true := fun e => hx ((h.has x).1 e)
  simp only [doA, h.chk, ho]
  simp only [ne_eq, not_true_eq_false, if_false, if_true, Bool.true_eq_false]
  rw [putA_eq, if_neg hg, if_neg (by omega)]
theorem Same.len {t : Tr} {l : PL} (h : Same t l) : l.length = t.size := by rw [← ks_length, h.ks]; simp
theorem puts_gro : ∀ (l : List Int) (t : Tr) (p : PL), Same t p → (∀ x ∈ l, x ∉ t.ks ∧ 0 ≤ x ∧ x ≤ 1000000) → l.Nodup → p.length + l.length ≤ 200 →
    ((l.map ptO).foldl (fun s o => (grR s.1 o (doA s.2 o.1 o.2.1), doL s.2 o.1 o.2.1 o.2.2)) (t, p)).1 = gro t l
  | [], t, p, _, _, _, _ => rfl
  | x :: l, t, p, h, hx, hn, hl => by
    rw [List.nodup_cons] at hn
    simp only [List.length_cons] at hl
    have h0 := hx x (by simp)
    have ha := put_ok h h0.1 h0.2 (by omega)
    have hst := h.step (ptO x)
    have eg : grR t (ptO x) (doA p 1 x) = t.ins x := by rw [ha]; simp [grR]
    rw [List.map_cons, List.foldl_cons]
    show ((l.map ptO).foldl _ (grR t (ptO x) (doA p 1 x), doL p 1 x 0)).1 = gro (t.ins x) l
    have hst' : Same (t.ins x) (doL p 1 x 0) := by rw [← eg]; exact hst
    rw [eg]
    refine puts_gro l (t.ins x) _ hst' (fun y hy => ⟨fun e => ?_, (hx y (by simp [hy])).2⟩) hn.2 ?_
    · rcases mem_ins.1 e with e | e
      · exact hn.1 (by rw [← e]; exact hy)
      · exact (hx y (by simp [hy])).1 e
    · rw [hst'.len, size_ins h0.1, ← h.len]
      omega
theorem grL_snoc (ops : List OP) (o : OP) : grT (ops ++ [o]) = grR (grT ops) o (doA (runR ops).1 o.1 o.2.1) := by
  rw [← grL_run]
  unfold grT grL
  rw [List.foldl_append]
  rfl
theorem unl_snoc {l : List Int} {x : Int} (h : unl (l ++ [x]) = 0) : unl l = 0 ∧ x ∉ l ∧ 0 ≤ x ∧ x ≤ 1000000 := by
  obtain ⟨h1, h2, h3⟩ := unl_zero.1 h
  rw [List.nodup_append] at h3
  refine ⟨unl_zero.2 ⟨by simp at h1; omega, fun y hy => h2 y (by simp [hy]), h3.1⟩, fun e => h3.2.2 x e x (by simp) rfl, h2 x (by simp)⟩
theorem last_goes {l : List Int} {x : Int} (h : unl (l ++ [x]) = 0) : grT ((l ++ [x]).map ptO ++ [(3, x, 0)]) = gro .nil l := by
  obtain ⟨h1, h2, h3⟩ := unl_zero.1 h
  obtain ⟨h4, h5, h6⟩ := unl_snoc h
  have e1 : grT ((l ++ [x]).map ptO) = gro .nil (l ++ [x]) := puts_gro _ _ _ same_nil (fun y hy => ⟨by simp [Tr.ks], h2 y hy⟩) h3 (by simpa using h1)
  have hS := grT_same ((l ++ [x]).map ptO)
  rw [grL_snoc]
  have hx : x ∉ (gro .nil l).ks := fun e => by
    rcases (mem_gro .nil l x).1 e with e | e
    · simp [Tr.ks] at e
    · exact h5 e
  have ha : (doA (runR ((l ++ [x]).map ptO)).1 3 x).e = 0 := by
    have ho : opB 3 x = true := by simp [opB, keyB, h6]
    simp only [doA, hS.chk, ho]
    simp only [ne_eq, not_true_eq_false, if_false, if_true, Bool.true_eq_false]
    rw [if_neg (by decide), getA_eq]
    cases getR x (runR ((l ++ [x]).map ptO)).1 <;> rfl
  unfold grR
  rw [if_neg (by simpa using ha), if_neg (by simp), if_pos rfl, e1, gro_snoc, tdel_ins hx]

set_option maxHeartbeats 1000000 in
/-- one of two is an error -/
theorem ok_two (x y : Int) (g : Nat) (w : World) (h : IB w g 26 [x, y]) (hxy : ¬ (x = 0 ∧ y = 0)) :
    Calls Try.prog 24 #[.slice (some ⟨g, 0, none⟩) 2 2] w fun e w' => e = .returned (.bool false) ∧ w = w' := by
  have h0 : w.cell? ⟨g, 0, none⟩ = some (I x) := by rw [h.cell]; rfl
  have h1 : w.cell? ⟨g, 1, none⟩ = some (I y) := by rw [h.cell]; rfl
  clear h
  go_enter Try.func24, Try.ntmps24
  go_wp2
  refine wp_loop_rounds 3 ?_
  by_cases hx : x = 0
  · subst hx
    have hy : (y != 0) = true := by simpa using hxy
    rw [rounds_succ]
    go_wp2
    rw [rounds_succ]
    go_wp2
    go_ret
    exact ⟨rfl, rfl⟩
  · have hx' := gerr_ne hx
    rw [rounds_succ]
    go_wp2
    go_ret
    exact ⟨rfl, rfl⟩

end Go.Proofs.Ytanmakgnjehcfaa
