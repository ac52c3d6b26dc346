/-
  Joined texts: YtpnjnedfcdppaaaGreatDoorGPlace, YtpnjnedfcdppaaaGreatDoorGSpots, YtpnjnedfcdppaaaGreatDoorGCheck, YtpnjnedfcdppaaaGreatDoorGOf, YtpnjnedfcdppaaaGreatDoorRunA.
-/
import Derived.Test.YtpnjnedfcdppaaaGreatDoorChecked
import Derived.Test.YtpnjnedfcdppaaaGreatDoorGHeapAll
import Derived.Deep.LoopGhost
import Derived.BigQuiet
import Derived.Deep.QuietTactic
import Derived.Test.YtpnjnedfcdppaaaGreatDoorSpotBAll
import Derived.Test.YtpnjnedfcdppaaaGreatDoorIntsAll
import Derived.Test.YtpnjnedfcdppaaaGreatDoorStepsAll
import Derived.Maps.OwnSet
import Derived.Maps.AppendAt
import Derived.WalkKit
import Derived.Test.YtpnjnedfcdppaaaGreatDoorDOpAll
/-
  placeOf, leastOf, remove: the way down to a key's place; the place of the least one; what is taken away.
-/
namespace Go.Proofs.YtpnjnedfcdppaaaGreatDoor
open Go.RowKit

/-- a place of the tree of T is told: what stands there, what is around it -/
def RetPl (B T : Nat) (t : PT) (x : Int) (w : World) (e : Ending) (w' : World) : Prop :=
  ∃ (c : PC) (s : PT) (b o : Nat), e = .returned (.pointer (some ⟨b, o, none⟩)) ∧ c.ad T = ⟨b, o, none⟩ ∧ w' = w ∧ Rep B w T c s ∧ s.tr = t.tr.sub x ∧ (∀ f, c.fill (f s.tr) = t.tr.alter x f) ∧ ∀ y ∈ s.bs ++ c.bs T, y ∈ t.bs ++ [T]

theorem sub_end {x : Int} {t : Tr} (h : t = .nil ∨ ∃ a b, t = .node a x b) : t.sub x = t ∧ ∀ f, t.alter x f = f t := by
  rcases h with rfl | ⟨a, b, rfl⟩
  · exact ⟨rfl, fun _ => rfl⟩
  · exact ⟨by simp [Tr.sub], fun f => by simp [Tr.alter]⟩

set_option maxHeartbeats 1000000 in
theorem placeOf_any (B T : Nat) (t : PT) (x : Int) (w : World) (h : Rep B w T .top t) :
    Calls Tryz.prog 60 #[.pointer (some ⟨T, 0, none⟩), I x] w (RetPl B T t x w) := by
  have H := Lib.hid h
  clear h
  go_enter Tryz.func60, Tryz.ntmps60
  go_wp2
  go_loopg [5] (t.tr.size) (fun n p wr => wr = w ∧ ∃ (c : PC) (s : PT), p = .pointer (some (c.ad T)) ∧ Rep B w T c s ∧ s.tr.sub x = t.tr.sub x ∧ (∀ f, c.fill (s.tr.alter x f) = t.tr.alter x f) ∧ (∀ y ∈ s.bs ++ c.bs T, y ∈ t.bs ++ [T]) ∧ s.tr.size ≤ n)
  case atStart => exact ⟨rfl, .top, t, rfl, H.out, rfl, fun _ => rfl, fun _ h => h, Nat.le_refl _⟩
  case round =>
    obtain ⟨rfl, c, s, rfl, hR, hs, hf, hm, hsz⟩ := hrel
    have HM := Lib.hid hm
    obtain ⟨b, o, eb, hb⟩ := c.ad_none T
    have HR := Lib.hid hR
    have HS := Lib.hid hs
    have HF := Lib.hid hf
    have EB := Lib.hid eb
    have hc := HR.out.ctx.cell.1
    rw [eb] at hc ⊢
    clear hR hs hf hm eb hb
    cases s with
    | nil =>
      have hc' : wr.cell? ⟨b, o, none⟩ = some (.pointer none) := hc
      clear hc
      go_wp2
      go_ret
      refine ⟨c, .nil, b, o, rfl, EB.out, rfl, HR.out, ?_, ?_⟩
      · rw [← HS.out]; rfl
      · exact ⟨fun f => by rw [← HF.out]; rfl, HM.out⟩
    | node g l k r =>
      have hc' : wr.cell? ⟨b, o, none⟩ = some (.pointer (some ⟨g, 0, none⟩)) := hc
      clear hc
      have hk : wr.cell? ⟨g, 0, none⟩ = some (I k) := HR.out.lay.1.facts.1.1
      rcases Int.lt_trichotomy x k with hx | hx | hx
      · have hne : k ≠ x := by omega
        go_wp2
        go_roundg (l.tr.size)
        case measure => simp only [PT.tr, Tr.size] at hsz; omega
        case rel =>
          refine ⟨rfl, .left c g k r, l, rfl, HR.out.left, ?_, ?_, fun y hy => HM.out y ((perm_l g l.bs r.bs (c.bs T)).mem_iff.1 hy), Nat.le_refl _⟩
          · rw [← HS.out]; simp [PT.tr, Tr.sub, hx]
          · intro f; rw [← HF.out]; simp [PT.tr, Tr.alter, hx, PC.fill]
      · subst hx
        go_wp2
        go_ret
        refine ⟨c, .node g l x r, b, o, rfl, EB.out, rfl, HR.out, ?_, ?_⟩
        · rw [← HS.out]; simp [PT.tr, Tr.sub]
        · exact ⟨fun f => by rw [← HF.out]; simp [PT.tr, Tr.alter], HM.out⟩
      · have hne : k ≠ x := by omega
        have E1 := Lib.hid (show (PT.node g l k r).tr.sub x = r.tr.sub x by rw [PT.tr, Tr.sub, if_neg (by omega), if_pos hx])
        have E2 := Lib.hid (show ∀ f, (PT.node g l k r).tr.alter x f = .node l.tr k (r.tr.alter x f) from fun f => by rw [PT.tr, Tr.alter, if_neg (by omega), if_pos hx])
        have hnl : ¬ x < k := by omega
        go_wp2
        go_roundg (r.tr.size)
        case measure => simp only [PT.tr, Tr.size] at hsz; omega
        case rel =>
          refine ⟨rfl, .right c g l k, r, rfl, HR.out.right, ?_, ?_, fun y hy => HM.out y ((perm_r g l.bs r.bs (c.bs T)).mem_iff.1 hy), Nat.le_refl _⟩
          · rw [← HS.out, E1.out]
          · intro f; rw [← HF.out, E2.out]; rfl

/-- the way to the least one: what is around it, what stands there -/
def lfC : PC → PT → PC
  | c, .nil => c
  | c, .node _ .nil _ _ => c
  | c, .node g (.node g' l' k' r') k r => lfC (.left c g k r) (.node g' l' k' r')
def lfT : PT → PT
  | .nil => .nil
  | .node g .nil k r => .node g .nil k r
  | .node _ (.node g' l' k' r') _ _ => lfT (.node g' l' k' r')
theorem Rep.least {B : Nat} {w : World} {T : Nat} {t : PT} : ∀ {c : PC}, Rep B w T c t → Rep B w T (lfC c t) (lfT t) := by
  induction t with
  | nil => exact fun {c} h => h
  | node g l k r ihl ihr =>
    intro c h
    cases l with
    | nil => exact h
    | node g' l' k' r' => exact ihl h.left
theorem lfT_form : ∀ {t : PT}, t ≠ .nil → ∃ g r, lfT t = .node g .nil t.tr.least r := by
  intro t
  induction t with
  | nil => exact fun h => absurd rfl h
  | node g l k r ihl ihr =>
    intro _
    cases l with
    | nil => exact ⟨g, r, rfl⟩
    | node g' l' k' r' =>
      obtain ⟨g1, r1, e⟩ := ihl (by simp)
      exact ⟨g1, r1, by
        rw [lfT, e]
        simp [PT.tr, Tr.least, Tr.isNil]⟩
theorem ad_lfC {T : Nat} {t : PT} : ∀ {c c' : PC}, c.ad T = c'.ad T → (lfC c t).ad T = (lfC c' t).ad T := by
  induction t with
  | nil => exact fun {c c'} h => h
  | node g l k r ihl ihr =>
    intro c c' h
    cases l with
    | nil => exact h
    | node g' l' k' r' => exact ihl rfl
theorem Rep.cutl {B : Nat} {w : World} {T : Nat} {g : Nat} {k : Int} {r : PT} {t : PT} : ∀ {c : PC}, lfT t = .node g .nil k r → Rep B w T (lfC c t) r → ∃ s : PT, Rep B w T c s ∧ s.tr = t.tr.cutl := by
  induction t with
  | nil => exact fun {c} e _ => by simp [lfT] at e
  | node g0 l k0 r0 ihl ihr =>
    intro c e h
    cases l with
    | nil =>
      simp only [lfT, PT.node.injEq] at e
      obtain ⟨_, _, _, rfl⟩ := e
      exact ⟨r0, h, by simp [PT.tr, Tr.cutl, Tr.isNil]⟩
    | node g' l' k' r' =>
      obtain ⟨s, hs, es⟩ := ihl (c := .left c g0 k0 r0) e h
      refine ⟨.node g0 s k0 r0, hs.up_left, ?_⟩
      rw [PT.tr, es]
      simp [PT.tr, Tr.cutl, Tr.isNil]

set_option maxHeartbeats 1000000 in
theorem leastOf_any (B T b o : Nat) (c : PC) (t : PT) (w : World) (h : Rep B w T c t) (hne : t ≠ .nil) (ea : c.ad T = ⟨b, o, none⟩) :
    Calls Tryz.prog 130 #[.pointer (some ⟨b, o, none⟩)] w fun e w' => e = .returned (.pointer (some ((lfC c t).ad T))) ∧ w' = w := by
  have H := Lib.hid h
  have HN := Lib.hid hne
  have EA := Lib.hid ea
  clear h hne ea
  go_enter Tryz.func130, Tryz.ntmps130
  go_wp2
  go_loopg [0] (t.tr.size) (fun n p wr => wr = w ∧ ∃ (c1 : PC) (s : PT), p = .pointer (some (c1.ad T)) ∧ Rep B w T c1 s ∧ s ≠ .nil ∧ (lfC c1 s).ad T = (lfC c t).ad T ∧ s.tr.size ≤ n)
  case atStart => exact ⟨rfl, c, t, by rw [EA.out], H.out, HN.out, rfl, Nat.le_refl _⟩
  case round =>
    obtain ⟨rfl, c1, s, rfl, hR, hs, hf, hsz⟩ := hrel
    obtain ⟨b1, o1, eb, hb⟩ := c1.ad_none T
    have HR := Lib.hid hR
    have HF := Lib.hid hf
    have EB := Lib.hid eb
    have hc := HR.out.ctx.cell.1
    rw [eb] at hc ⊢
    clear hR hf eb hb
    cases s with
    | nil => exact absurd rfl hs
    | node g l k r =>
      clear hs
      have hc' : wr.cell? ⟨b1, o1, none⟩ = some (.pointer (some ⟨g, 0, none⟩)) := hc
      clear hc
      cases l with
      | nil =>
        have hk : wr.cell? ⟨g, 1, none⟩ = some (.pointer none) := HR.out.lay.1.facts.1.2.1
        go_wp2
        go_ret
        exact ⟨by rw [← HF.out, lfC, EB.out]; rfl, rfl⟩
      | node g' l' k' r' =>
        have hk : wr.cell? ⟨g, 1, none⟩ = some (.pointer (some ⟨g', 0, none⟩)) := HR.out.lay.1.facts.1.2.1
        go_wp2
        go_roundg ((PT.node g' l' k' r').tr.size)
        case measure => simp only [PT.tr, Tr.size] at hsz ⊢; omega
        case rel => exact ⟨rfl, .left c1 g k r, .node g' l' k' r', rfl, HR.out.left, by simp, HF.out, Nat.le_refl _⟩

set_option maxHeartbeats 1000000 in
/-- nothing to its left -/
theorem remove_left (B T b o : Nat) (c : PC) (g : Nat) (k : Int) (r : PT) (w : World) (h : Rep B w T c (.node g .nil k r)) (ea : c.ad T = ⟨b, o, none⟩) :
    Calls Tryz.prog 61 #[.pointer (some ⟨b, o, none⟩)] w fun e w' => e = .returned (.tuple #[]) ∧ w' = w.setCell ⟨b, o, none⟩ (.pointer r.q) := by
  have H := Lib.hid h
  have hc : w.cell? ⟨b, o, none⟩ = some (.pointer (some ⟨g, 0, none⟩)) := by rw [← ea]; exact h.ctx.cell.1
  have hz : w.frozen? ⟨b, o, none⟩ = false := by rw [← ea]; exact h.ctx.cell.2
  have h1 : w.cell? ⟨g, 1, none⟩ = some (.pointer none) := h.lay.1.facts.1.2.1
  have h2 : w.cell? ⟨g, 2, none⟩ = some (.pointer r.q) := h.lay.1.facts.1.2.2
  clear h ea
  go_enter Tryz.func61, Tryz.ntmps61
  go_wp2
  go_end0
  exact ⟨rfl, rfl⟩
set_option maxHeartbeats 1000000 in
/-- nothing to its right -/
theorem remove_right (B T b o : Nat) (c : PC) (g g' : Nat) (k k' : Int) (l' r' : PT) (w : World) (h : Rep B w T c (.node g (.node g' l' k' r') k .nil)) (ea : c.ad T = ⟨b, o, none⟩) :
    Calls Tryz.prog 61 #[.pointer (some ⟨b, o, none⟩)] w fun e w' => e = .returned (.tuple #[]) ∧ w' = w.setCell ⟨b, o, none⟩ (.pointer (some ⟨g', 0, none⟩)) := by
  have hc : w.cell? ⟨b, o, none⟩ = some (.pointer (some ⟨g, 0, none⟩)) := by rw [← ea]; exact h.ctx.cell.1
  have hz : w.frozen? ⟨b, o, none⟩ = false := by rw [← ea]; exact h.ctx.cell.2
  have h1 : w.cell? ⟨g, 1, none⟩ = some (.pointer (some ⟨g', 0, none⟩)) := h.lay.1.facts.1.2.1
  have h2 : w.cell? ⟨g, 2, none⟩ = some (.pointer none) := h.lay.1.facts.1.2.2
  clear h ea
  go_enter Tryz.func61, Tryz.ntmps61
  go_wp2
  go_end0
  exact ⟨rfl, rfl⟩

def RetRm (B T : Nat) (c : PC) (t : Tr) (w : World) (e : Ending) (w' : World) : Prop := e = .returned (.tuple #[]) ∧ Below B w w' ∧ ∃ s : PT, Rep B w' T c s ∧ s.tr = t
theorem Rep.sub_left {B : Nat} {w : World} {T : Nat} {c : PC} {g : Nat} {l r : PT} {k : Int} (h : Rep B w T c (.node g l k r)) : Rep B (w.setCell (c.ad T) l.v) T c l := by
  have hn := h.nd
  have hg := h.ge
  simp only [PT.bs, List.cons_append, List.nodup_cons, List.append_assoc] at hn
  refine Rep.put h.ctx h.lay.2.1 ?_ ?_
  · have := hn.2
    rw [List.nodup_append] at this ⊢
    exact ⟨this.1, (List.nodup_append.1 this.2.1).2.1, fun x hx y hy => this.2.2 x hx y (List.mem_append.2 (.inr hy))⟩
  · intro x hx
    refine hg x ?_
    simp only [PT.bs, List.mem_append, List.mem_cons] at hx ⊢
    rcases hx with hx | hx
    · exact .inl (.inr (.inl hx))
    · exact .inr hx
theorem Rep.sub_right {B : Nat} {w : World} {T : Nat} {c : PC} {g : Nat} {l r : PT} {k : Int} (h : Rep B w T c (.node g l k r)) : Rep B (w.setCell (c.ad T) r.v) T c r := by
  have hn := h.nd
  have hg := h.ge
  simp only [PT.bs, List.cons_append, List.nodup_cons, List.append_assoc] at hn
  refine Rep.put h.ctx h.lay.2.2 ?_ ?_
  · exact (List.nodup_append.1 hn.2).2.1
  · intro x hx
    refine hg x ?_
    simp only [PT.bs, List.mem_append, List.mem_cons] at hx ⊢
    rcases hx with hx | hx
    · exact .inl (.inr (.inr hx))
    · exact .inr hx

set_option maxHeartbeats 1000000 in
theorem remove_any (B T b o : Nat) (c : PC) (g : Nat) (k : Int) (l r : PT) (w : World) (h : Rep B w T c (.node g l k r)) (ea : c.ad T = ⟨b, o, none⟩) :
    Calls Tryz.prog 61 #[.pointer (some ⟨b, o, none⟩)] w (RetRm B T c (Tr.node l.tr k r.tr).cutTop w) := by
  have hbl : B ≤ b := by have := h.blk; rw [ea] at this; exact this
  cases l with
  | nil =>
    refine (remove_left B T b o c g k r w h ea).mono ?_
    rintro e w' ⟨rfl, rfl⟩
    refine ⟨rfl, (Below.refl _ _).setCell hbl _, r, ?_, by simp [PT.tr, Tr.cutTop, Tr.isNil]⟩
    rw [← ea]
    exact h.sub_right
  | node g' l' k' r' =>
    cases r with
    | nil =>
      refine (remove_right B T b o c g g' k k' l' r' w h ea).mono ?_
      rintro e w' ⟨rfl, rfl⟩
      refine ⟨rfl, (Below.refl _ _).setCell hbl _, .node g' l' k' r', ?_, by simp [PT.tr, Tr.cutTop, Tr.isNil]⟩
      rw [← ea]
      exact h.sub_left
    | node g2 l2 k2 r2 =>
      obtain ⟨gm, rm, em⟩ := lfT_form (t := .node g2 l2 k2 r2) (by simp)
      have hle := h.right
      have hlo := hle.least
      rw [em] at hlo
      obtain ⟨bm, om, ebm, _⟩ := (lfC (.right c g (.node g' l' k' r') k) (.node g2 l2 k2 r2)).ad_none T
      have hcm : w.cell? ⟨bm, om, none⟩ = some (.pointer (some ⟨gm, 0, none⟩)) := by rw [← ebm]; exact hlo.ctx.cell.1
      have hkm : w.cell? ⟨gm, 0, none⟩ = some (I (PT.node g2 l2 k2 r2).tr.least) := hlo.lay.1.facts.1.1
      -- behind the store of the key
      have h1 := h.key (PT.node g2 l2 k2 r2).tr.least
      have hlo1 := h1.right.least
      rw [em] at hlo1
      have ea1 : (lfC (.right c g (.node g' l' k' r') (PT.node g2 l2 k2 r2).tr.least) (.node g2 l2 k2 r2)).ad T = ⟨bm, om, none⟩ := by rw [← ebm]; exact ad_lfC rfl
      have hgB : B ≤ g := h.ge g (by simp [PT.bs])
      have hbm : B ≤ bm := by have := hlo.blk; rw [ebm] at this; exact this
      have hc : w.cell? ⟨b, o, none⟩ = some (.pointer (some ⟨g, 0, none⟩)) := by rw [← ea]; exact h.ctx.cell.1
      have hx1 : w.cell? ⟨g, 1, none⟩ = some (.pointer (some ⟨g', 0, none⟩)) := h.lay.1.facts.1.2.1
      have hx2 : w.cell? ⟨g, 2, none⟩ = some (.pointer (some ⟨g2, 0, none⟩)) := h.lay.1.facts.1.2.2
      have hx0 : w.cell? ⟨g, 0, none⟩ = some (I k) := h.lay.1.facts.1.1
      have hz0 : w.frozen? ⟨g, 0, none⟩ = false := h.lay.1.facts.2.1
      generalize hmn : (PT.node g2 l2 k2 r2).tr.least = mn at hkm h1 hlo1 ea1 em
      have H := Lib.hid h
      have H1 := Lib.hid h1
      have HL := Lib.hid hle
      have HO := Lib.hid hlo1
      have EA := Lib.hid ea1
      have EM := Lib.hid em
      have EBM := Lib.hid ebm
      have EB := Lib.hid ea
      have MN := Lib.hid hmn
      clear h h1 hle hlo hlo1 ea1 em ebm ea hmn
      go_enter Tryz.func61, Tryz.ntmps61
      go_wp2_with fail
      refine (leastOf_any B T g 2 _ _ w HL.out (by simp) rfl).mono ?_
      rintro e w' ⟨rfl, rfl⟩
      rw [EBM.out]
      go_wp2_with fail
      refine (remove_left B T bm om _ gm mn rm _ HO.out EA.out).mono ?_
      rintro e w'' ⟨rfl, rfl⟩
      go_wp2
      go_end0
      have hput := HO.out.sub_right
      rw [EA.out] at hput
      obtain ⟨s, hs, es⟩ := Rep.cutl EM.out hput
      refine ⟨rfl, ((Below.refl _ _).setCell hgB _).setCell hbm _, .node g (.node g' l' k' r') mn s, hs.up_right, ?_⟩
      rw [PT.tr, es, ← MN.out]
      simp [PT.tr, Tr.cutTop, Tr.isNil]

end Go.Proofs.YtpnjnedfcdppaaaGreatDoor

/-
  spots: a tree's nodes, told in order, appended onto a list of the call's own.
-/
namespace Go.Proofs.YtpnjnedfcdppaaaGreatDoor
open Go.RowKit

set_option maxRecDepth 100000 in
set_option maxHeartbeats 2000000 in
theorem spots_any (t : PT) : ∀ (base : Nat) (v : Value) (L : PL) (d : Int) (w : World), t.Lay w → (∀ x ∈ t.bs, x < base) → OwnR w base 82 v L → base ≤ w.heap.size → L.length + t.tr.size ≤ 1000 → 0 ≤ d → d + t.tr.size ≤ 1000 →
    Calls Tryz.prog 62 #[v, .pointer t.q, I d] w (RetSO (L ++ t.tr.sp d) base w) := by
  induction t with
  | nil =>
    intro base v L d w h hbs hown hbase hL hd hd2
    have HO := Lib.hid hown
    clear h hown
    show Calls Tryz.prog 62 #[v, .pointer none, I d] w _
    go_enter Tryz.func62, Tryz.ntmps62
    go_wp2
    go_ret
    exact ⟨v, rfl, by simpa [PT.tr, Tr.sp] using HO.out, Below.refl _ _⟩
  | node g a k b iha ihb =>
    intro base v L d w h hbs hown hbase hL hd hd2
    simp only [PT.tr, Tr.size] at hL hd2
    obtain ⟨hN, hla, hlb⟩ := h
    have hgb : g < base := hbs g (by simp [PT.bs])
    have IHA := Lib.hid (iha base v L (d + 1) w hla (fun x hx => hbs x (by simp [PT.bs, hx])) hown hbase (by omega) (by omega) (by omega))
    have HB := Lib.hid hlb
    have HBS := Lib.hid hbs
    have IHB := Lib.hid ihb
    have h0 : w.cell? ⟨g, 0, none⟩ = some (I k) := hN.facts.1.1
    have h1 : w.cell? ⟨g, 1, none⟩ = some (.pointer a.q) := hN.facts.1.2.1
    have h2 : w.cell? ⟨g, 2, none⟩ = some (.pointer b.q) := hN.facts.1.2.2
    have hsa : (L ++ a.tr.sp (d + 1)).length = L.length + a.tr.size := by rw [List.length_append, sp_length]
    have HSA := Lib.hid hsa
    clear hN hla hlb hbs ihb iha hown hsa
    show Calls Tryz.prog 62 #[v, .pointer (some ⟨g, 0, none⟩), I d] w _
    go_enter Tryz.func62, Tryz.ntmps62
    go_wp2_with fail
    refine IHA.out.mono ?_
    rintro e w1 ⟨v1, rfl, ho1, hb1⟩
    have HO1 := Lib.hid ho1
    have HB1 := Lib.hid hb1
    have hs1 := hb1.size
    have h0' : w1.cell? ⟨g, 0, none⟩ = some (I k) := (hb1.cell (by exact hgb)).trans h0
    have h2' : w1.cell? ⟨g, 2, none⟩ = some (.pointer b.q) := (hb1.cell (by exact hgb)).trans h2
    clear ho1 hb1 IHA h0 h1 h2
    go_wp2_with (first
      | (at_builtin
         refine wpList_app2 rfl (.tmp 18) (.tmp 25) 41 rfl 82 Tryz.underlying41 gspot_info base v1 (L ++ a.tr.sp (d + 1)) [(k, d)] (some ⟨w1.heap.size, 0, none⟩) 1 1 rfl rfl (own_below HO1.out ((Below.refl _ _).alloc (Nat.le_refl _) _)) (gsrc_one w1 k d) ?hbd ?hbs ?_
         case hbd => rw [HSA.out]; omega
         case hbs => simp; omega
         intro v2 w2 hown2 hgrow2 _
         have hb12 : Below base w1 w2 := ((Below.refl _ _).alloc (by omega) _).grown hgrow2 (by simp; omega) (fun i hi => OwnR.ge HO1.out i hi)
         have hs2 := hb12.size
         have h2'' : w2.cell? ⟨g, 2, none⟩ = some (.pointer b.q) := (hb12.cell (by exact hgb)).trans h2')
      | fail)
    have HB2 : Hid (Below base w w2) := Below.trans HB1.out hb12
    have HO2 : Hid (OwnR w2 base 82 v2 (L ++ a.tr.sp (d + 1) ++ [(k, d)])) := hown2
    have HLB2 : Hid (b.Lay w2) := HB.out.keep fun x hx => HB2.out.block x (HBS.out x (by simp [PT.bs, hx]))
    clear hown2 hgrow2 hb12 h2' h0'
    refine (IHB.out base v2 (L ++ a.tr.sp (d + 1) ++ [(k, d)]) (d + 1) w2 HLB2.out (fun x hx => HBS.out x (by simp [PT.bs, hx])) HO2.out (by omega) ?hl (by omega) (by omega)).mono ?_
    case hl => rw [List.length_append, HSA.out]; simp; omega
    rintro e w3 ⟨v3, rfl, ho3, hb3⟩
    have HO3 := Lib.hid ho3
    have HB3 := Lib.hid (HB2.out.trans hb3)
    clear ho3 hb3
    go_wp2
    go_ret
    exact ⟨v3, rfl, by simpa [PT.tr, Tr.sp] using HO3.out, HB3.out⟩

end Go.Proofs.YtpnjnedfcdppaaaGreatDoor

/-
  check: may these keys come? What was seen is kept in a map of the call's own.
-/
namespace Go.Proofs.YtpnjnedfcdppaaaGreatDoor
open Go.RowKit Go.Maps

theorem keyed_int : Keyed Tryz.prog 3 := int_keyed Tryz.underlying3
theorem zero_bool (w : World) : (zeroValue 4).run Tryz.prog w = .ok (.bool false) w := by kernel_rfl
theorem elem_bool_inv {P : Program} {e : TypeId} (he : P.underlying e = some .bool) {v : Value} {z : DataW Unit × List MemPlace} (h : plainElem P e v = some z) : ∃ x, v = .bool x ∧ z = (.lit (.bool x), []) := by
  unfold plainElem at h
  rw [he] at h
  cases v <;> simp at h
  exact ⟨_, rfl, h.symm⟩

/-- the keys that were seen -/
def Sd (l : List Int) : DataW Unit := l.foldl (fun D x => D.put (.int .i64 x) (.lit (.bool true))) (.map [])
theorem Sd_snoc (l : List Int) (x : Int) : Sd (l ++ [x]) = (Sd l).put (.int .i64 x) (.lit (.bool true)) := by simp [Sd]
theorem fold_at (x : Int) (z : DataW Unit) : ∀ (l : List Int) (D : DataW Unit), IsMap D →
    (l.foldl (fun D x => D.put (.int .i64 x) (.lit (.bool true))) D).atKey (.int .i64 x) z = if x ∈ l then .lit (.bool true) else D.atKey (.int .i64 x) z
  | [], D, _ => by simp
  | y :: l, D, hD => by
    rw [List.foldl_cons, fold_at x z l _ (hD.put _ _)]
    by_cases h1 : x ∈ l
    · simp [h1]
    · by_cases h2 : x = y
      · subst h2
        simp only [List.mem_cons, h1, or_false, if_true, if_false]
        exact atKey_put_same hD (by first | trivial | simp [WideAt.IsKeyLit]) _ _
      · simp only [List.mem_cons, h1, h2, or_false, if_false]
        exact atKey_put_other (by simp [h2]) _ _
theorem Sd_at (l : List Int) (x : Int) : (Sd l).atKey (.int .i64 x) (.lit (.bool false)) = .lit (.bool (decide (x ∈ l))) := by
  unfold Sd
  rw [fold_at x _ l _ isMap_empty]
  by_cases h : x ∈ l <;> simp [h]
  rfl
theorem look_seen {w : World} {g n : Nat} {l : List Int} (h : w.ownsMap Tryz.prog 3 (plainElem Tryz.prog 4) g n (Sd l)) {x : Int} (hw : (Lit.int .i64 x).wf = true) :
    (Instr.lookup 207 (.map (some g)) (I x) false).run Tryz.prog w = .ok (.bool (decide (x ∈ l))) w := by
  obtain ⟨v, ps, hrun, hv⟩ := h.lookup keyed_int Tryz.underlying207 (zero_bool w) (plainElem_bool Tryz.underlying4 false) (keyOf_int_mk Tryz.underlying3 hw)
  obtain ⟨b, rfl, hb⟩ := elem_bool_inv Tryz.underlying4 hv
  rw [Sd_at] at hb
  simp only [Prod.mk.injEq, DataW.lit.injEq, Lit.bool.injEq] at hb
  rw [hb.1]
  exact hrun
theorem wf_key {x : Int} (h : 0 ≤ x ∧ x ≤ 1000000) : (Lit.int .i64 x).wf = true := by
  have h1 : IntKind.i64.min = -9223372036854775808 := by decide
  have h2 : IntKind.i64.max = 9223372036854775807 := by decide
  simp [Lit.wf, h1, h2]
  omega

theorem take_snoc {l : List Int} {k : Nat} (h : k < l.length) : l.take (k + 1) = l.take k ++ [l[k]] := List.take_succ_eq_append_getElem h
theorem nodup_snoc {l : List Int} {x : Int} (h : l.Nodup) (hx : x ∉ l) : (l ++ [x]).Nodup := by
  rw [List.nodup_append]
  exact ⟨h, by simp, fun a ha b hb => by simp only [List.mem_singleton] at hb; subst hb; exact fun e => hx (by rw [← e]; exact ha)⟩
theorem not_nodup {l : List Int} {k : Nat} (h : k < l.length) (hx : l[k] ∈ l.take k) : ¬ l.Nodup := fun hn => by
  have h2 : (l.take (k + 1)).Nodup := hn.sublist (List.take_sublist _ _)
  rw [take_snoc h, List.nodup_append] at h2
  exact h2.2.2 _ hx _ (by simp) rfl
theorem all_take {l : List Int} {p : Int → Prop} {k : Nat} (h : ∀ x ∈ l.take k, p x) (hk : k < l.length) (hp : p l[k]) : ∀ x ∈ l.take (k + 1), p x := by
  rw [take_snoc hk]
  intro x hx
  rcases List.mem_append.1 hx with e | e
  · exact h x e
  · simp only [List.mem_singleton] at e
    rw [e]; exact hp

set_option maxHeartbeats 2000000 in
set_option maxRecDepth 100000 in
theorem gcheck_any (A : Option Addr) (n c : Nat) (l : List Int) (w : World) (h : IS w A n c l) :
    Calls Tryz.prog 74 #[.slice A n c] w fun e w' => e = .returned (I (unl l)) ∧ Below w.heap.size w w' := by
  have hl := h.len
  by_cases hn : 200 < n
  · have hu := Lib.hid (show unl l = 2 by unfold unl; rw [if_pos (by omega)])
    clear h hl
    go_enter Tryz.func74, Tryz.ntmps74
    go_wp2
    go_ret
    exact ⟨by rw [hu.out]; rfl, Below.refl _ _⟩
  have hdat : 0 < n → ∃ b off, A = some ⟨b, off, none⟩ ∧ b < w.heap.size ∧ ∀ i (hi : i < n), w.cell? ⟨b, off + i, none⟩ = some (I (l[i]?.getD 0)) := fun h0 => by
    obtain ⟨b, off, e, hb, hc⟩ := h.rd.2 h0
    exact ⟨b, off, e, hb, fun i hi => by simpa using hc i hi 0 (by omega)⟩
  obtain ⟨b, off, hA⟩ : ∃ b off, 0 < n → A = some ⟨b, off, none⟩ ∧ b < w.heap.size ∧ ∀ i (hi : i < n), w.cell? ⟨b, off + i, none⟩ = some (I (l[i]?.getD 0)) := by
    by_cases h0 : 0 < n
    · obtain ⟨b, off, e⟩ := hdat h0
      exact ⟨b, off, fun _ => e⟩
    · exact ⟨0, 0, fun h1 => absurd h1 h0⟩
  have HA := Lib.hid hA
  have HL := Lib.hid hl
  have hn2 : n ≤ 200 := by omega
  clear h hl hdat hA
  have hmm := @run_makeMap Tryz.prog
  go_enter Tryz.func74, Tryz.ntmps74
  go_wp2
  go_loopw [13] (fun i wr => ∃ k : Nat, k ≤ n ∧ i = .int .i64 k ∧ wr = w ∧ ∀ x ∈ l.take k, 0 ≤ x ∧ x ≤ 1000000) (fun i _ => n - (intOf i).toNat)
  case atStart => exact ⟨0, Nat.zero_le _, rfl, rfl, by simp⟩
  case round =>
    obtain ⟨k, hk, rfl, rfl, hall⟩ := hrel
    have HK := Lib.hid hall
    clear hall
    by_cases hlt : k < n
    · obtain ⟨rfl, hb, hc⟩ := HA.out (by omega)
      have hkl : k < l.length := by rw [HL.out]; exact hlt
      have hck : wr.cell? ⟨b, off + k, none⟩ = some (I l[k]) := by rw [hc k hlt]; simp [List.getElem?_eq_getElem hkl]
      clear hc
      generalize hx : l[k] = x at hck
      have HX := Lib.hid hx
      clear hx
      by_cases hb1 : 0 ≤ x
      · by_cases hb2 : x ≤ 1000000
        · go_wp2
          go_roundw
          case rel => exact ⟨k + 1, by omega, by go_num, by first | exact rfl | trivial, all_take HK.out hkl (by rw [HX.out]; exact ⟨hb1, hb2⟩)⟩
          case measure => simp [intOf]; omega
        · have hu := Lib.hid (show unl l = 3 by
            unfold unl
            rw [if_neg (by rw [HL.out]; omega), if_neg]
            intro hq
            have := hq x (by rw [← HX.out]; exact List.getElem_mem hkl)
            omega)
          go_wp2
          go_ret
          exact ⟨by rw [hu.out]; rfl, Below.refl _ _⟩
      · have hu := Lib.hid (show unl l = 3 by
          unfold unl
          rw [if_neg (by rw [HL.out]; omega), if_neg]
          intro hq
          have := hq x (by rw [← HX.out]; exact List.getElem_mem hkl)
          omega)
        go_wp2
        go_ret
        exact ⟨by rw [hu.out]; rfl, Below.refl _ _⟩
    · skip
      have HALL := Lib.hid (show ∀ x ∈ l, 0 ≤ x ∧ x ≤ 1000000 by
        have := HK.out
        rwa [List.take_of_length_le (by rw [HL.out]; omega)] at this)
      clear HK
      go_wp2
      go_loopg [27] n (fun m i wr' => ∃ j : Nat, j ≤ n ∧ n - j ≤ m ∧ i = .int .i64 j ∧ wr'.ownsMap Tryz.prog 3 (plainElem Tryz.prog 4) wr.heap.size j (Sd (l.take j)) ∧ Below wr.heap.size wr wr' ∧ (l.take j).Nodup)
      case atStart => exact ⟨0, Nat.zero_le _, by omega, rfl, by simpa [Sd] using World.ownsMap_made _ _ _ _, (Below.refl _ _).alloc (Nat.le_refl _) _, by simp⟩
      case round =>
        obtain ⟨j, hj, hjm, rfl, hown, hnx, hnd⟩ := hrel
        have HND := Lib.hid hnd
        have HNX := Lib.hid hnx
        have HOW := Lib.hid hown
        have hsz := hnx.size
        clear hnd hnx hown
        by_cases hjn : j < n
        · obtain ⟨rfl, hb, hc⟩ := HA.out (by omega)
          have hjl : j < l.length := by rw [HL.out]; exact hjn
          have hcj : wr.cell? ⟨b, off + j, none⟩ = some (I l[j]) := by rw [HNX.out.cell (by exact hb), hc j hjn]; simp [List.getElem?_eq_getElem hjl]
          clear hc
          have hxr := HALL.out l[j] (List.getElem_mem hjl)
          have hwf := wf_key hxr
          have hlook := look_seen HOW.out hwf
          by_cases hm : l[j] ∈ l.take j
          · have hu := Lib.hid (show unl l = 5 by
              unfold unl
              rw [if_neg (by rw [HL.out]; omega), if_pos HALL.out, if_neg (not_nodup hjl hm)])
            have hmt : decide (l[j] ∈ l.take j) = true := by simp [hm]
            rw [hmt] at hlook
            clear hmt hm hwf hxr
            generalize l[j] = x at hcj hlook
            go_wp2
            go_ret
            exact ⟨by rw [hu.out]; rfl, HNX.out⟩
          · have hmf : decide (l[j] ∈ l.take j) = false := by simp [hm]
            rw [hmf] at hlook
            have HN2 := Lib.hid (show (l.take (j + 1)).Nodup by rw [take_snoc hjl]; exact nodup_snoc HND.out hm)
            have hS := Lib.hid (show Sd (l.take (j + 1)) = (Sd (l.take j)).put (.int .i64 l[j]) (.lit (.bool true)) by rw [take_snoc hjl, Sd_snoc])
            have hkey := keyOf_int_mk Tryz.underlying3 hwf
            clear hmf hm hxr
            generalize l[j] = x at hcj hlook hkey hS
            go_wp2_with (first
              | (at_mapUpdate; refine wpList_mapUpdate_own _ rfl _ _ _ 207 rfl 3 4 keyed_int Tryz.underlying207 (plainElem Tryz.prog 4) _ j _ rfl HOW.out (by unfold maxLen; omega) _ _ _ rfl rfl hkey _ [] (plainElem_bool Tryz.underlying4 true) ?_; intro w1 hown1 hgrow1)
              | go_in)
            have hs1 := hgrow1.size
            go_wp2
            go_roundg (gk - 1)
            case rel => exact ⟨j + 1, by omega, by omega, by go_num, by rw [hS.out]; exact hown1, HNX.out.grown hgrow1 (by omega) (fun i hi => by cases hi; exact Nat.le_refl _), HN2.out⟩
            case measure => omega
        · have hu := Lib.hid (show unl l = 0 by
            have h1 := HND.out
            rw [List.take_of_length_le (by rw [HL.out]; omega)] at h1
            exact unl_zero.2 ⟨by rw [HL.out]; exact hn2, HALL.out, h1⟩)
          go_wp2
          go_ret
          exact ⟨by rw [hu.out]; rfl, HNX.out⟩
end Go.Proofs.YtpnjnedfcdppaaaGreatDoor

/-
  Of: the tree when keys came one behind the other.
-/
namespace Go.Proofs.YtpnjnedfcdppaaaGreatDoor
open Go.RowKit

/-- a list of spots, and no error -/
def RetG (L : PL) (w : World) (e : Ending) (w' : World) : Prop :=
  ∃ A n c, e = .returned (.tuple #[.slice A n c, I 0]) ∧ PS w' A n c L ∧ Below w.heap.size w w'

theorem gerr_ne {E : Int} (h : E ≠ 0) : (E != 0) = true := by simpa using h

set_option maxHeartbeats 1000000 in
theorem Of_bad (A : Option Addr) (n c : Nat) (l : List Int) (w : World) (h : IS w A n c l) (E : Int) (hE : unl l = E) (hE0 : E ≠ 0) :
    Calls Tryz.prog 37 #[.slice A n c] w fun e w' => e = .returned (.tuple #[.slice none 0 0, I E]) ∧ Below w.heap.size w w' := by
  have HK := Lib.hid (gcheck_any A n c l w h)
  have HE := Lib.hid hE
  have hne := gerr_ne hE0
  clear h hE
  go_enter Tryz.func37, Tryz.ntmps37
  go_wp2_with fail
  refine HK.out.mono ?_
  rintro e w1 ⟨rfl, hb⟩
  rw [HE.out]
  go_wp2
  go_ret2
  exact ⟨rfl, hb⟩

/-- a new node in its place -/
theorem Rep.newLeaf2 {B T : Nat} {c : PC} {s : PT} {t : Tr} {x : Int} {w : World} (h1 : Rep B (w.alloc (.cells #[I x, .pointer none, .pointer none] 111)) T c s) (hlt : ∀ y ∈ c.bs T, y < w.heap.size) (hf : ∀ f, c.fill (f s.tr) = t.alter x f) (hx : x ∉ t.ks) (hB : B ≤ w.heap.size) :
    ∃ t' : PT, Rep B ((w.alloc (.cells #[I x, .pointer none, .pointer none] 111)).setCell (c.ad T) (.pointer (some ⟨w.heap.size, 0, none⟩))) T .top t' ∧ t'.tr = t.ins x := by
  have hN : NB (w.alloc (.cells #[I x, .pointer none, .pointer none] 111)) w.heap.size x (.pointer none) (.pointer none) := heap_alloc_new w _
  have hr := Rep.put (B := B) (t := .node w.heap.size .nil x .nil) h1.ctx ⟨hN, trivial, trivial⟩ (by
    simp only [PT.bs, List.append_nil, List.cons_append, List.nil_append, List.nodup_cons]
    refine ⟨fun hm => ?_, (List.nodup_append.1 h1.nd).2.1⟩
    have := hlt w.heap.size hm
    omega) (by
    intro y hy
    simp only [PT.bs, List.append_nil, List.cons_append, List.nil_append, List.mem_cons] at hy
    rcases hy with rfl | hy
    · exact hB
    · exact h1.ge y (List.mem_append.2 (.inr hy)))
  obtain ⟨t', ht', et'⟩ := hr.up
  refine ⟨t', ht', ?_⟩
  rw [et', ← alter_ins hx, ← hf]
  rfl
theorem Rep.newLeaf {B T : Nat} {c : PC} {s : PT} {t : Tr} {x : Int} {w : World} (h : Rep B w T c s) (hf : ∀ f, c.fill (f s.tr) = t.alter x f) (hx : x ∉ t.ks) (hB : B ≤ w.heap.size) :
    ∃ t' : PT, Rep B ((w.alloc (.cells #[I x, .pointer none, .pointer none] 111)).setCell (c.ad T) (.pointer (some ⟨w.heap.size, 0, none⟩))) T .top t' ∧ t'.tr = t.ins x :=
  (h.alloc _).newLeaf2 (fun y hy => h.lt y (List.mem_append.2 (.inr hy))) hf hx hB

set_option maxRecDepth 100000 in
set_option maxHeartbeats 2000000 in
theorem GOf_ok (A : Option Addr) (n c : Nat) (l : List Int) (w : World) (h : IS w A n c l) (hu : unl l = 0) :
    Calls Tryz.prog 37 #[.slice A n c] w (RetG ((gro .nil l).sp 0) w) := by
  have HK := Lib.hid (gcheck_any A n c l w h)
  have HU := Lib.hid hu
  obtain ⟨hl2, hrg, hnd⟩ := unl_zero.1 hu
  have HND := Lib.hid hnd
  have HL := Lib.hid h.len
  have H := Lib.hid h
  have hn2 : n ≤ 200 := by rw [← h.len]; exact hl2
  clear h hu hl2 hrg hnd
  go_enter Tryz.func37, Tryz.ntmps37
  go_wp2_with fail
  refine HK.out.mono ?_
  rintro e w1 ⟨rfl, hb1⟩
  rw [HU.out]
  have H1 := Lib.hid (H.out.below hb1)
  have HB1 := Lib.hid hb1
  clear hb1 HK
  go_wp2
  go_loopg [15] n (fun m i wr => ∃ k : Nat, k ≤ n ∧ n - k ≤ m ∧ i = .int .i64 k ∧ Below w1.heap.size w1 wr ∧ ∃ t : PT, Rep w1.heap.size wr w1.heap.size .top t ∧ t.tr = gro .nil (l.take k))
  case atStart =>
    refine ⟨0, Nat.zero_le _, by omega, rfl, (Below.refl _ _).alloc (Nat.le_refl _) _, .nil, ⟨?_, trivial, ?_, ?_⟩, rfl⟩
    · exact heap_alloc_new w1 _
    · simp [PT.bs, PC.bs]
    · intro x hx
      simp [PT.bs, PC.bs] at hx
      omega
  case round =>
    obtain ⟨k, hk, hkm, rfl, hnx, t, hR, ht⟩ := hrel
    have HNX := Lib.hid hnx
    have HR := Lib.hid hR
    have HT := Lib.hid ht
    have hsz := hnx.size
    clear hnx hR ht
    by_cases hlt : k < n
    · obtain ⟨b, off, rfl, hb, hc⟩ := H1.out.at_ (by omega)
      have hkl : k < l.length := by rw [HL.out]; exact hlt
      have hck : wr.cell? ⟨b, off + k, none⟩ = some (I l[k]) := by rw [HNX.out.cell (by exact hb), hc k hlt]
      have HX := Lib.hid (show l[k] ∉ t.tr.ks by
        rw [HT.out, mem_gro]
        rintro (h | h)
        · simp [Tr.ks] at h
        · exact not_nodup hkl h HND.out)
      have HT2 := Lib.hid (gro_take .nil l k hkl)
      clear hc
      generalize l[k] = x at hck HX HT2
      go_wp2_with fail
      refine (placeOf_any _ _ t x wr HR.out).mono ?_
      rintro e w2 ⟨c1, s, b1, o1, rfl, ea, rfl, hR2, _, hf, _⟩
      have hcl : (w2.alloc (.cells #[I x, .pointer none, .pointer none] 111)).cell? ⟨b1, o1, none⟩ = some (.pointer s.q) := by rw [← ea]; exact (hR2.alloc _).ctx.cell.1
      have hfz : (w2.alloc (.cells #[I x, .pointer none, .pointer none] 111)).frozen? ⟨b1, o1, none⟩ = false := by rw [← ea]; exact (hR2.alloc _).ctx.cell.2
      have hbl : w1.heap.size ≤ b1 := by have := hR2.blk; rw [ea] at this; exact this
      have HNW := Lib.hid (hR2.newLeaf hf HX.out hsz)
      have EA := Lib.hid ea
      clear hR2 hf ea
      go_wp2
      go_roundg (gk - 1)
      case measure => omega
      case rel =>
        obtain ⟨t', hR', et'⟩ := HNW.out
        rw [EA.out] at hR'
        refine ⟨k + 1, by omega, by omega, by go_num, ((HNX.out.alloc hsz _).setCell hbl _), t', hR', ?_⟩
        rw [et', HT2.out, HT.out]
    · have HTL := Lib.hid (show t.tr = gro .nil l by rw [HT.out, List.take_of_length_le (by rw [HL.out]; omega)])
      have HSZ := Lib.hid (show t.tr.size = n by rw [HTL.out, size_gro l .nil HND.out (by simp [Tr.ks]), HL.out]; simp [Tr.size])
      have htop : wr.cell? ⟨w1.heap.size, 0, none⟩ = some (.pointer t.q) := HR.out.ctx.cell.1
      go_wp2_with fail
      refine (spots_any t wr.heap.size (.slice none 0 0) [] 0 wr HR.out.lay (fun x hx => HR.out.lay.lt x hx) (World.ownsRow_nil _ _ _ _) (Nat.le_refl _) (by rw [HSZ.out]; simp; omega) (Int.le_refl _) (by rw [HSZ.out]; omega)).mono ?_
      rintro e w3 ⟨v3, rfl, ho3, hb3⟩
      obtain ⟨A3, c3, rfl, hps, _⟩ := OwnR.ps ho3
      have HPS := Lib.hid hps
      have HB3 := Lib.hid hb3
      clear ho3 hps hb3
      go_wp2
      go_ret2
      have HSL := Lib.hid (show (([] : PL) ++ t.tr.sp 0) = (gro .nil l).sp 0 by rw [HTL.out]; simp)
      refine ⟨A3, _, c3, rfl, ?_, (HB1.out.trans (HNX.out.mono HB1.out.size)).trans (HB3.out.mono (by have := HB1.out.size; omega))⟩
      have := HPS.out
      rw [← HSL.out]
      exact this

end Go.Proofs.YtpnjnedfcdppaaaGreatDoor

/-
  The answers of plain.Run, one by one; an op, an answer as blocks.
-/
namespace Go.Proofs.YtpnjnedfcdppaaaGreatDoor
open Go.RowKit

theorem fold_ans : ∀ (ops : List OP) (s : PL × List An), (ops.foldl stepR s).2 = s.2 ++ (ops.foldl stepR (s.1, [])).2
  | [], s => by simp
  | o :: ops, s => by
    rw [List.foldl_cons, List.foldl_cons, fold_ans ops (stepR s o), fold_ans ops (stepR (s.1, []) o)]
    simp [stepR]
theorem runR_ans (ops : List OP) (k : Nat) (h : k < ops.length) : (runR ops).2[k]'(by rw [runR_len]; exact h) = doA (runR (ops.take k)).1 ops[k].1 ops[k].2.1 := by
  have e : runR ops = (ops.drop (k + 1)).foldl stepR (stepR (runR (ops.take k)) ops[k]) := by
    rw [← runR_succ ops k h]
    unfold runR
    rw [← List.foldl_append, List.take_append_drop]
  have hl : (runR (ops.take k)).2.length = k := by rw [runR_len]; simp; omega
  have e2 : (runR ops).2 = ((runR (ops.take k)).2 ++ [doA (runR (ops.take k)).1 ops[k].1 ops[k].2.1]) ++ ((ops.drop (k + 1)).foldl stepR ((stepR (runR (ops.take k)) ops[k]).1, [])).2 := by
    rw [e, fold_ans]
    rfl
  have : (runR ops).2[k]? = some (doA (runR (ops.take k)).1 ops[k].1 ops[k].2.1) := by
    rw [e2, List.getElem?_append_left (by simp [hl]), List.getElem?_append_right (by omega), hl]
    simp
  rw [List.getElem?_eq_getElem (by rw [runR_len]; exact h)] at this
  exact Option.some.inj this

abbrev opO (kind key val : Int) : Obj := .cells #[I kind, I key, I val] 69
abbrev anO (a : An) : Obj := .cells #[I a.e, I a.k, I a.v, .bool a.b] 51

end Go.Proofs.YtpnjnedfcdppaaaGreatDoor
