/-
  placeOf, leastOf, remove: the way down to a key's place; the place of the least one; what is taken away.
-/
import Derived.Test.YtpnjnedfcdppaaaGreatDoorChecked
import Derived.Test.YtpnjnedfcdppaaaGreatDoorOSpotsAll
import Derived.Deep.LoopGhost
import Derived.BigQuiet
import Derived.Deep.QuietTactic
namespace Go.Proofs.YtpnjnedfcdppaaaGreatDoor
open Go.RowKit

def RetPl (B T : Nat) (t : PT) (x : Int) (w : World) (e : Ending) (w' : World) : Prop :=
  ∃ (c : PC) (s : PT) (b o : Nat), e = .returned (.pointer (some ⟨b, o, none⟩)) ∧ c.ad T = ⟨b, o, none⟩ ∧ w' = w ∧ Rep B w T c s ∧ s.tr = t.tr.sub x ∧ (∀ f, c.fill (f s.tr) = t.tr.alter x f) ∧ ∀ y ∈ s.bs ++ c.bs T, y ∈ t.bs ++ [T]

set_option maxHeartbeats 1000000 in
theorem placeOf_any (B T : Nat) (t : PT) (x : Int) (w : World) (h : Rep B w T .top t) :
    Calls Tryz.prog 60 #[.pointer (some ⟨T, 0, none⟩), I x] w (RetPl B T t x w) := by
  have H := Lib.hid h
  clear h
  go_enter Tryz.func60, Tryz.ntmps60
  go_wp2
  go_loopg [5] (t.tr.size) (fun n p wr => wr = w ∧ ∃ (c : PC) (s : PT), p = .pointer (some (c.ad T)) ∧ Rep B w T c s ∧ s.tr.sub x = t.tr.sub x ∧ (∀ f, c.fill (s.tr.alter x f) = t.tr.alter x f) ∧ (∀ y ∈ s.bs ++ c.bs T, y ∈ t.bs ++ [T]) ∧ s.tr.size ≤ n)
  case atStart => exact ⟨rfl, .top, t, rfl, H.out, rfl, fun _ => rfl, fun _ h => h, Nat.le_refl _⟩
  case round =>
    obtain ⟨rfl, c, s, rfl, hR, hs, hf, hm, hsz⟩ := hrel
    have HM := Lib.hid hm
    obtain ⟨b, o, eb, hb⟩ := c.ad_none T
    have HR := Lib.hid hR
    have HS := Lib.hid hs
    have HF := Lib.hid hf
    have EB := Lib.hid eb
    have hc := HR.out.ctx.cell.1
    rw [eb] at hc ⊢
    clear hR hs hf hm eb hb
    cases s with
    | nil =>
      have hc' : wr.cell? ⟨b, o, none⟩ = some (.pointer none) := hc
      clear hc
      go_wp2
      go_ret
      refine ⟨c, .nil, b, o, rfl, EB.out, rfl, HR.out, ?_, ?_⟩
      · rw [← HS.out]; rfl
      · exact ⟨fun f => by rw [← HF.out]; rfl, HM.out⟩
    | node g l k r =>
      have hc' : wr.cell? ⟨b, o, none⟩ = some (.pointer (some ⟨g, 0, none⟩)) := hc
      clear hc
      have hk : wr.cell? ⟨g, 0, none⟩ = some (I k) := HR.out.lay.1.facts.1.1
      rcases Int.lt_trichotomy x k with hx | hx | hx
      · have hne : k ≠ x := by omega
        go_wp2
        go_roundg (l.tr.size)
        case measure => simp only [PT.tr, Tr.size] at hsz; omega
        case rel =>
          refine ⟨rfl, .left c g k r, l, rfl, HR.out.left, ?_, ?_, fun y hy => HM.out y ((perm_l g l.bs r.bs (c.bs T)).mem_iff.1 hy), Nat.le_refl _⟩
          · rw [← HS.out]; simp [PT.tr, Tr.sub, hx]
          · intro f; rw [← HF.out]; simp [PT.tr, Tr.alter, hx, PC.fill]
      · subst hx
        go_wp2
        go_ret
        refine ⟨c, .node g l x r, b, o, rfl, EB.out, rfl, HR.out, ?_, ?_⟩
        · rw [← HS.out]; simp [PT.tr, Tr.sub]
        · exact ⟨fun f => by rw [← HF.out]; simp [PT.tr, Tr.alter], HM.out⟩
      · have hne : k ≠ x := by omega
        have E1 := Lib.hid (show (PT.node g l k r).tr.sub x = r.tr.sub x by rw [PT.tr, Tr.sub, if_neg (by omega), if_pos hx])
        have E2 := Lib.hid (show ∀ f, (PT.node g l k r).tr.alter x f = .node l.tr k (r.tr.alter x f) from fun f => by rw [PT.tr, Tr.alter, if_neg (by omega), if_pos hx])
        have hnl : ¬ x < k := by omega
        go_wp2
        go_roundg (r.tr.size)
        case measure => simp only [PT.tr, Tr.size] at hsz; omega
        case rel =>
          refine ⟨rfl, .right c g l k, r, rfl, HR.out.right, ?_, ?_, fun y hy => HM.out y ((perm_r g l.bs r.bs (c.bs T)).mem_iff.1 hy), Nat.le_refl _⟩
          · rw [← HS.out, E1.out]
          · intro f; rw [← HF.out, E2.out]; rfl

def lfC : PC → PT → PC
  | c, .nil => c
  | c, .node _ .nil _ _ => c
  | c, .node g (.node g' l' k' r') k r => lfC (.left c g k r) (.node g' l' k' r')
def lfT : PT → PT
  | .nil => .nil
  | .node g .nil k r => .node g .nil k r
  | .node _ (.node g' l' k' r') _ _ => lfT (.node g' l' k' r')
theorem Rep.least {B : Nat} {w : World} {T : Nat} {t : PT} : ∀ {c : PC}, Rep B w T c t → Rep B w T (lfC c t) (lfT t) := by
  induction t with
  | nil => exact fun {c} h => h
  | node g l k r ihl ihr =>
    intro c h
    cases l with
    | nil => exact h
    | node g' l' k' r' => exact ihl h.left
theorem lfT_form : ∀ {t : PT}, t ≠ .nil → ∃ g r, lfT t = .node g .nil t.tr.least r := by
  intro t
  induction t with
  | nil => exact fun h => absurd rfl h
  | node g l k r ihl ihr =>
    intro _
    cases l with
    | nil => exact ⟨g, r, rfl⟩
    | node g' l' k' r' =>
      obtain ⟨g1, r1, e⟩ := ihl (by simp)
      exact ⟨g1, r1, by
        rw [lfT, e]
        simp [PT.tr, Tr.least, Tr.isNil]⟩
theorem ad_lfC {T : Nat} {t : PT} : ∀ {c c' : PC}, c.ad T = c'.ad T → (lfC c t).ad T = (lfC c' t).ad T := by
  induction t with
  | nil => exact fun {c c'} h => h
  | node g l k r ihl ihr =>
    intro c c' h
    cases l with
    | nil => exact h
    | node g' l' k' r' => exact ihl rfl
theorem Rep.cutl {B : Nat} {w : World} {T : Nat} {g : Nat} {k : Int} {r : PT} {t : PT} : ∀ {c : PC}, lfT t = .node g .nil k r → Rep B w T (lfC c t) r → ∃ s : PT, Rep B w T c s ∧ s.tr = t.tr.cutl := by
  induction t with
  | nil => exact fun {c} e _ => by simp [lfT] at e
  | node g0 l k0 r0 ihl ihr =>
    intro c e h
    cases l with
    | nil =>
      simp only [lfT, PT.node.injEq] at e
      obtain ⟨_, _, _, rfl⟩ := e
      exact ⟨r0, h, by simp [PT.tr, Tr.cutl, Tr.isNil]⟩
    | node g' l' k' r' =>
      obtain ⟨s, hs, es⟩ := ihl (c := .left c g0 k0 r0) e h
      refine ⟨.node g0 s k0 r0, hs.up_left, ?_⟩
      rw [PT.tr, es]
      simp [PT.tr, Tr.cutl, Tr.isNil]

set_option maxHeartbeats 1000000 in
theorem leastOf_any (B T b o : Nat) (c : PC) (t : PT) (w : World) (h : Rep B w T c t) (hne : t ≠ .nil) (ea : c.ad T = ⟨b, o, none⟩) :
    Calls Tryz.prog 130 #[.pointer (some ⟨b, o, none⟩)] w fun e w' => e = .returned (.pointer (some ((lfC c t).ad T))) ∧ w' = w := by
  have H := Lib.hid h
  have HN := Lib.hid hne
  have EA := Lib.hid ea
  clear h hne ea
  go_enter Tryz.func130, Tryz.ntmps130
  go_wp2
  go_loopg [0] (t.tr.size) (fun n p wr => wr = w ∧ ∃ (c1 : PC) (s : PT), p = .pointer (some (c1.ad T)) ∧ Rep B w T c1 s ∧ s ≠ .nil ∧ (lfC c1 s).ad T = (lfC c t).ad T ∧ s.tr.size ≤ n)
  case atStart => exact ⟨rfl, c, t, by rw [EA.out], H.out, HN.out, rfl, Nat.le_refl _⟩
  case round =>
    obtain ⟨rfl, c1, s, rfl, hR, hs, hf, hsz⟩ := hrel
    obtain ⟨b1, o1, eb, hb⟩ := c1.ad_none T
    have HR := Lib.hid hR
    have HF := Lib.hid hf
    have EB := Lib.hid eb
    have hc := HR.out.ctx.cell.1
    rw [eb] at hc ⊢
    clear hR hf eb hb
    cases s with
    | nil => exact absurd rfl hs
    | node g l k r =>
      clear hs
      have hc' : wr.cell? ⟨b1, o1, none⟩ = some (.pointer (some ⟨g, 0, none⟩)) := hc
      clear hc
      cases l with
      | nil =>
        have hk : wr.cell? ⟨g, 1, none⟩ = some (.pointer none) := HR.out.lay.1.facts.1.2.1
        go_wp2
        go_ret
        exact ⟨by rw [← HF.out, lfC, EB.out]; rfl, rfl⟩
      | node g' l' k' r' =>
        have hk : wr.cell? ⟨g, 1, none⟩ = some (.pointer (some ⟨g', 0, none⟩)) := HR.out.lay.1.facts.1.2.1
        go_wp2
        go_roundg ((PT.node g' l' k' r').tr.size)
        case measure => simp only [PT.tr, Tr.size] at hsz ⊢; omega
        case rel => exact ⟨rfl, .left c1 g k r, .node g' l' k' r', rfl, HR.out.left, by simp, HF.out, Nat.le_refl _⟩

set_option maxHeartbeats 1000000 in
theorem remove_left (B T b o : Nat) (c : PC) (g : Nat) (k : Int) (r : PT) (w : World) (h : Rep B w T c (.node g .nil k r)) (ea : c.ad T = ⟨b, o, none⟩) :
    Calls Tryz.prog 61 #[.pointer (some ⟨b, o, none⟩)] w fun e w' => e = .returned (.tuple #[]) ∧ w' = w.setCell ⟨b, o, none⟩ (.pointer r.q) := by
  have H := Lib.hid h
  have hc : w.cell? ⟨b, o, none⟩ = some (.pointer (some ⟨g, 0, none⟩)) := by rw [← ea]; exact h.ctx.cell.1
  have hz : w.frozen? ⟨b, o, none⟩ = false := by rw [← ea]; exact h.ctx.cell.2
  have h1 : w.cell? ⟨g, 1, none⟩ = some (.pointer none) := h.lay.1.facts.1.2.1
  have h2 : w.cell? ⟨g, 2, none⟩ = some (.pointer r.q) := h.lay.1.facts.1.2.2
  clear h ea
  go_enter Tryz.func61, Tryz.ntmps61
  go_wp2
  go_end0
  exact ⟨rfl, rfl⟩
set_option maxHeartbeats 1000000 in
theorem remove_right (B T b o : Nat) (c : PC) (g g' : Nat) (k k' : Int) (l' r' : PT) (w : World) (h : Rep B w T c (.node g (.node g' l' k' r') k .nil)) (ea : c.ad T = ⟨b, o, none⟩) :
    Calls Tryz.prog 61 #[.pointer (some ⟨b, o, none⟩)] w fun e w' => e = .returned (.tuple #[]) ∧ w' = w.setCell ⟨b, o, none⟩ (.pointer (some ⟨g', 0, none⟩)) := by
  have hc : w.cell? ⟨b, o, none⟩ = some (.pointer (some ⟨g, 0, none⟩)) := by rw [← ea]; exact h.ctx.cell.1
  have hz : w.frozen? ⟨b, o, none⟩ = false := by rw [← ea]; exact h.ctx.cell.2
  have h1 : w.cell? ⟨g, 1, none⟩ = some (.pointer (some ⟨g', 0, none⟩)) := h.lay.1.facts.1.2.1
  have h2 : w.cell? ⟨g, 2, none⟩ = some (.pointer none) := h.lay.1.facts.1.2.2
  clear h ea
  go_enter Tryz.func61, Tryz.ntmps61
  go_wp2
  go_end0
  exact ⟨rfl, rfl⟩

def RetRm (B T : Nat) (c : PC) (t : Tr) (w : World) (e : Ending) (w' : World) : Prop := e = .returned (.tuple #[]) ∧ Below B w w' ∧ ∃ s : PT, Rep B w' T c s ∧ s.tr = t
theorem Rep.sub_left {B : Nat} {w : World} {T : Nat} {c : PC} {g : Nat} {l r : PT} {k : Int} (h : Rep B w T c (.node g l k r)) : Rep B (w.setCell (c.ad T) l.v) T c l := by
  have hn := h.nd
  have hg := h.ge
  simp only [PT.bs, List.cons_append, List.nodup_cons, List.append_assoc] at hn
  refine Rep.put h.ctx h.lay.2.1 ?_ ?_
  · have := hn.2
    rw [List.nodup_append] at this ⊢
    exact ⟨this.1, (List.nodup_append.1 this.2.1).2.1, fun x hx y hy => this.2.2 x hx y (List.mem_append.2 (.inr hy))⟩
  · intro x hx
    refine hg x ?_
    simp only [PT.bs, List.mem_append, List.mem_cons] at hx ⊢
    rcases hx with hx | hx
    · exact .inl (.inr (.inl hx))
    · exact .inr hx
theorem Rep.sub_right {B : Nat} {w : World} {T : Nat} {c : PC} {g : Nat} {l r : PT} {k : Int} (h : Rep B w T c (.node g l k r)) : Rep B (w.setCell (c.ad T) r.v) T c r := by
  have hn := h.nd
  have hg := h.ge
  simp only [PT.bs, List.cons_append, List.nodup_cons, List.append_assoc] at hn
  refine Rep.put h.ctx h.lay.2.2 ?_ ?_
  · exact (List.nodup_append.1 hn.2).2.1
  · intro x hx
    refine hg x ?_
    simp only [PT.bs, List.mem_append, List.mem_cons] at hx ⊢
    rcases hx with hx | hx
    · exact .inl (.inr (.inr hx))
    · exact .inr hx

set_option maxHeartbeats 1000000 in
theorem remove_any (B T b o : Nat) (c : PC) (g : Nat) (k : Int) (l r : PT) (w : World) (h : Rep B w T c (.node g l k r)) (ea : c.ad T = ⟨b, o, none⟩) :
    Calls Tryz.prog 61 #[.pointer (some ⟨b, o, none⟩)] w (RetRm B T c (Tr.node l.tr k r.tr).cutTop w) := by
  have hbl : B ≤ b := by have := h.blk; rw [ea] at this; exact this
  cases l with
  | nil =>
    refine (remove_left B T b o c g k r w h ea).mono ?_
    rintro e w' ⟨rfl, rfl⟩
    refine ⟨rfl, (Below.refl _ _).setCell hbl _, r, ?_, by simp [PT.tr, Tr.cutTop, Tr.isNil]⟩
    rw [← ea]
    exact h.sub_right
  | node g' l' k' r' =>
    cases r with
    | nil =>
      refine (remove_right B T b o c g g' k k' l' r' w h ea).mono ?_
      rintro e w' ⟨rfl, rfl⟩
      refine ⟨rfl, (Below.refl _ _).setCell hbl _, .node g' l' k' r', ?_, by simp [PT.tr, Tr.cutTop, Tr.isNil]⟩
      rw [← ea]
      exact h.sub_left
    | node g2 l2 k2 r2 =>
      obtain ⟨gm, rm, em⟩ := lfT_form (t := .node g2 l2 k2 r2) (by simp)
      have hle := h.right
      have hlo := hle.least
      rw [em] at hlo
      obtain ⟨bm, om, ebm, _⟩ := (lfC (.right c g (.node g' l' k' r') k) (.node g2 l2 k2 r2)).ad_none T
      have hcm : w.cell? ⟨bm, om, none⟩ = some (.pointer (some ⟨gm, 0, none⟩)) := by rw [← ebm]; exact hlo.ctx.cell.1
      have hkm : w.cell? ⟨gm, 0, none⟩ = some (I (PT.node g2 l2 k2 r2).tr.least) := hlo.lay.1.facts.1.1
      have h1 := h.key (PT.node g2 l2 k2 r2).tr.least
      have hlo1 := h1.right.least
      rw [em] at hlo1
      have ea1 : (lfC (.right c g (.node g' l' k' r') (PT.node g2 l2 k2 r2).tr.least) (.node g2 l2 k2 r2)).ad T = ⟨bm, om, none⟩ := by rw [← ebm]; exact ad_lfC rfl
      have hgB : B ≤ g := h.ge g (by simp [PT.bs])
      have hbm : B ≤ bm := by have := hlo.blk; rw [ebm] at this; exact this
      have hc : w.cell? ⟨b, o, none⟩ = some (.pointer (some ⟨g, 0, none⟩)) := by rw [← ea]; exact h.ctx.cell.1
      have hx1 : w.cell? ⟨g, 1, none⟩ = some (.pointer (some ⟨g', 0, none⟩)) := h.lay.1.facts.1.2.1
      have hx2 : w.cell? ⟨g, 2, none⟩ = some (.pointer (some ⟨g2, 0, none⟩)) := h.lay.1.facts.1.2.2
      have hx0 : w.cell? ⟨g, 0, none⟩ = some (I k) := h.lay.1.facts.1.1
      have hz0 : w.frozen? ⟨g, 0, none⟩ = false := h.lay.1.facts.2.1
      generalize hmn : (PT.node g2 l2 k2 r2).tr.least = mn at hkm h1 hlo1 ea1 em
      have H := Lib.hid h
      have H1 := Lib.hid h1
      have HL := Lib.hid hle
      have HO := Lib.hid hlo1
      have EA := Lib.hid ea1
      have EM := Lib.hid em
      have EBM := Lib.hid ebm
      have EB := Lib.hid ea
      have MN := Lib.hid hmn
      clear h h1 hle hlo hlo1 ea1 em ebm ea hmn
      go_enter Tryz.func61, Tryz.ntmps61
      go_wp2_with fail
      refine (leastOf_any B T g 2 _ _ w HL.out (by simp) rfl).mono ?_
      rintro e w' ⟨rfl, rfl⟩
      rw [EBM.out]
      go_wp2_with fail
      refine (remove_left B T bm om _ gm mn rm _ HO.out EA.out).mono ?_
      rintro e w'' ⟨rfl, rfl⟩
      go_wp2
      go_end0
      have hput := HO.out.sub_right
      rw [EA.out] at hput
      obtain ⟨s, hs, es⟩ := Rep.cutl EM.out hput
      refine ⟨rfl, ((Below.refl _ _).setCell hgB _).setCell hbm _, .node g (.node g' l' k' r') mn s, hs.up_right, ?_⟩
      rw [PT.tr, es, ← MN.out]
      simp [PT.tr, Tr.cutTop, Tr.isNil]

end Go.Proofs.YtpnjnedfcdppaaaGreatDoor
