/-
  spots: a tree's nodes, told in order, appended onto a list of the call's own.
-/
import Derived.Test.YtcjhglejmmphbaaGPlace
import Derived.Test.YtcjhglejmmphbaaSRow
import Derived.Test.YtcjhglejmmphbaaInts
namespace Go.Proofs.Ytcjhglejmmphbaa
open Go.RowKit

theorem gspot_info : (Try.prog.info? 46).map (fun i => (i.zero, i.size, i.bytes)) = some (some (.agg #[I 0, I 0]), 2, 16) := by kernel_rfl
theorem gsrc_one (w : World) (k d : Int) : Src (w.alloc (.cells #[I k, I d] 46)) (some ⟨w.heap.size, 0, none⟩) 1 [(k, d)] := by
  refine ⟨rfl, fun _ => ⟨_, rfl, fun j u hu => ?_⟩⟩
  match j with
  | 0 => simp [flat] at hu; simp [Addr.add, ← hu]
  | 1 => simp [flat] at hu; simp [Addr.add, ← hu]
  | j + 2 => simp [flat] at hu

def RetSO (L : PL) (base : Nat) (w : World) (e : Ending) (w' : World) : Prop := ∃ v, e = .returned v ∧ OwnR w' base 46 v L ∧ Below base w w'

set_option maxRecDepth 100000 in
set_option maxHeartbeats 2000000 in
theorem spots_any (t : PT) : ∀ (base : Nat) (v : Value) (L : PL) (d : Int) (w : World), t.Lay w → (∀ x ∈ t.bs, x < base) → OwnR w base 46 v L → base ≤ w.heap.size → L.length + t.tr.size ≤ 1000 → 0 ≤ d → d + t.tr.size ≤ 1000 →
    Calls Try.prog 35 #[v, .pointer t.q, I d] w (RetSO (L ++ t.tr.sp d) base w) := by
  induction t with
  | nil =>
    intro base v L d w h hbs hown hbase hL hd hd2
    have HO := Lib.hid hown
    clear h hown
    show Calls Try.prog 35 #[v, .pointer none, I d] w _
    go_enter Try.func35, Try.ntmps35
    go_wp2
    go_ret
    exact ⟨v, rfl, by simpa [PT.tr, Tr.sp] using HO.out, Below.refl _ _⟩
  | node g a k b iha ihb =>
    intro base v L d w h hbs hown hbase hL hd hd2
    simp only [PT.tr, Tr.size] at hL hd2
    obtain ⟨hN, hla, hlb⟩ := h
    have hgb : g < base := hbs g (by simp [PT.bs])
    have IHA := Lib.hid (iha base v L (d + 1) w hla (fun x hx => hbs x (by simp [PT.bs, hx])) hown hbase (by omega) (by omega) (by omega))
    have HB := Lib.hid hlb
    have HBS := Lib.hid hbs
    have IHB := Lib.hid ihb
    have h0 : w.cell? ⟨g, 0, none⟩ = some (I k) := hN.facts.1.1
    have h1 : w.cell? ⟨g, 1, none⟩ = some (.pointer a.q) := hN.facts.1.2.1
    have h2 : w.cell? ⟨g, 2, none⟩ = some (.pointer b.q) := hN.facts.1.2.2
    have hsa : (L ++ a.tr.sp (d + 1)).length = L.length + a.tr.size := by rw [List.length_append, sp_length]
    have HSA := Lib.hid hsa
    clear hN hla hlb hbs ihb iha hown hsa
    show Calls Try.prog 35 #[v, .pointer (some ⟨g, 0, none⟩), I d] w _
    go_enter Try.func35, Try.ntmps35
    go_wp2_with fail
    refine IHA.out.mono ?_
    rintro e w1 ⟨v1, rfl, ho1, hb1⟩
    have HO1 := Lib.hid ho1
    have HB1 := Lib.hid hb1
    have hs1 := hb1.size
    have h0' : w1.cell? ⟨g, 0, none⟩ = some (I k) := (hb1.cell (by exact hgb)).trans h0
    have h2' : w1.cell? ⟨g, 2, none⟩ = some (.pointer b.q) := (hb1.cell (by exact hgb)).trans h2
    clear ho1 hb1 IHA h0 h1 h2
    go_wp2_with (first
      | (at_builtin
         refine wpList_app2 rfl (.tmp 18) (.tmp 25) 24 rfl 46 Try.underlying24 gspot_info base v1 (L ++ a.tr.sp (d + 1)) [(k, d)] (some ⟨w1.heap.size, 0, none⟩) 1 1 rfl rfl (own_below HO1.out ((Below.refl _ _).alloc (Nat.le_refl _) _)) (gsrc_one w1 k d) ?hbd ?hbs ?_
         case hbd => rw [HSA.out]; omega
         case hbs => simp; omega
         intro v2 w2 hown2 hgrow2 _
         have hb12 : Below base w1 w2 := ((Below.refl _ _).alloc (by omega) _).grown hgrow2 (by simp; omega) (fun i hi => OwnR.ge HO1.out i hi)
         have hs2 := hb12.size
         have h2'' : w2.cell? ⟨g, 2, none⟩ = some (.pointer b.q) := (hb12.cell (by exact hgb)).trans h2')
      | fail)
    have HB2 : Hid (Below base w w2) := Below.trans HB1.out hb12
    have HO2 : Hid (OwnR w2 base 46 v2 (L ++ a.tr.sp (d + 1) ++ [(k, d)])) := hown2
    have HLB2 : Hid (b.Lay w2) := HB.out.keep fun x hx => HB2.out.block x (HBS.out x (by simp [PT.bs, hx]))
    clear hown2 hgrow2 hb12 h2' h0'
    refine (IHB.out base v2 (L ++ a.tr.sp (d + 1) ++ [(k, d)]) (d + 1) w2 HLB2.out (fun x hx => HBS.out x (by simp [PT.bs, hx])) HO2.out (by omega) ?hl (by omega) (by omega)).mono ?_
    case hl => rw [List.length_append, HSA.out]; simp; omega
    rintro e w3 ⟨v3, rfl, ho3, hb3⟩
    have HO3 := Lib.hid ho3
    have HB3 := Lib.hid (HB2.out.trans hb3)
    clear ho3 hb3
    go_wp2
    go_ret
    exact ⟨v3, rfl, by simpa [PT.tr, Tr.sp] using HO3.out, HB3.out⟩

end Go.Proofs.Ytcjhglejmmphbaa
