/-
  Of: the tree when keys came one behind the other.
-/
import Derived.Test.YtcjhglejmmphbaaGSpots
import Derived.Test.YtcjhglejmmphbaaGCheck
namespace Go.Proofs.Ytcjhglejmmphbaa
open Go.RowKit

/-- a list of spots, and no error -/
def RetG (L : PL) (w : World) (e : Ending) (w' : World) : Prop :=
  ∃ A n c, e = .returned (.tuple #[.slice A n c, I 0]) ∧ PS w' A n c L ∧ Below w.heap.size w w'

theorem gerr_ne {E : Int} (h : E ≠ 0) : (E != 0) = true := by simpa using h

set_option maxHeartbeats 1000000 in
theorem Of_bad (A : Option Addr) (n c : Nat) (l : List Int) (w : World) (h : IS w A n c l) (E : Int) (hE : unl l = E) (hE0 : E ≠ 0) :
    Calls Try.prog 20 #[.slice A n c] w fun e w' => e = .returned (.tuple #[.slice none 0 0, I E]) ∧ Below w.heap.size w w' := by
  have HK := Lib.hid (gcheck_any A n c l w h)
  have HE := Lib.hid hE
  have hne := gerr_ne hE0
  clear h hE
  go_enter Try.func20, Try.ntmps20
  go_wp2_with fail
  refine HK.out.mono ?_
  rintro e w1 ⟨rfl, hb⟩
  rw [HE.out]
  go_wp2
  go_ret2
  exact ⟨rfl, hb⟩

/-- a new node in its place -/
theorem Rep.newLeaf2 {B T : Nat} {c : PC} {s : PT} {t : Tr} {x : Int} {w : World} (h1 : Rep B (w.alloc (.cells #[I x, .pointer none, .pointer none] 63)) T c s) (hlt : ∀ y ∈ c.bs T, y < w.heap.size) (hf : ∀ f, c.fill (f s.tr) = t.alter x f) (hx : x ∉ t.ks) (hB : B ≤ w.heap.size) :
    ∃ t' : PT, Rep B ((w.alloc (.cells #[I x, .pointer none, .pointer none] 63)).setCell (c.ad T) (.pointer (some ⟨w.heap.size, 0, none⟩))) T .top t' ∧ t'.tr = t.ins x := by
  have hN : NB (w.alloc (.cells #[I x, .pointer none, .pointer none] 63)) w.heap.size x (.pointer none) (.pointer none) := heap_alloc_new w _
  have hr := Rep.put (B := B) (t := .node w.heap.size .nil x .nil) h1.ctx ⟨hN, trivial, trivial⟩ (by
    simp only [PT.bs, List.append_nil, List.cons_append, List.nil_append, List.nodup_cons]
    refine ⟨fun hm => ?_, (List.nodup_append.1 h1.nd).2.1⟩
    have := hlt w.heap.size hm
    omega) (by
    intro y hy
    simp only [PT.bs, List.append_nil, List.cons_append, List.nil_append, List.mem_cons] at hy
    rcases hy with rfl | hy
    · exact hB
    · exact h1.ge y (List.mem_append.2 (.inr hy)))
  obtain ⟨t', ht', et'⟩ := hr.up
  refine ⟨t', ht', ?_⟩
  rw [et', ← alter_ins hx, ← hf]
  rfl
theorem Rep.newLeaf {B T : Nat} {c : PC} {s : PT} {t : Tr} {x : Int} {w : World} (h : Rep B w T c s) (hf : ∀ f, c.fill (f s.tr) = t.alter x f) (hx : x ∉ t.ks) (hB : B ≤ w.heap.size) :
    ∃ t' : PT, Rep B ((w.alloc (.cells #[I x, .pointer none, .pointer none] 63)).setCell (c.ad T) (.pointer (some ⟨w.heap.size, 0, none⟩))) T .top t' ∧ t'.tr = t.ins x :=
  (h.alloc _).newLeaf2 (fun y hy => h.lt y (List.mem_append.2 (.inr hy))) hf hx hB

set_option maxRecDepth 100000 in
set_option maxHeartbeats 2000000 in
theorem GOf_ok (A : Option Addr) (n c : Nat) (l : List Int) (w : World) (h : IS w A n c l) (hu : unl l = 0) :
    Calls Try.prog 20 #[.slice A n c] w (RetG ((gro .nil l).sp 0) w) := by
  have HK := Lib.hid (gcheck_any A n c l w h)
  have HU := Lib.hid hu
  obtain ⟨hl2, hrg, hnd⟩ := unl_zero.1 hu
  have HND := Lib.hid hnd
  have HL := Lib.hid h.len
  have H := Lib.hid h
  have hn2 : n ≤ 200 := by rw [← h.len]; exact hl2
  clear h hu hl2 hrg hnd
  go_enter Try.func20, Try.ntmps20
  go_wp2_with fail
  refine HK.out.mono ?_
  rintro e w1 ⟨rfl, hb1⟩
  rw [HU.out]
  have H1 := Lib.hid (H.out.below hb1)
  have HB1 := Lib.hid hb1
  clear hb1 HK
  go_wp2
  go_loopg [15] n (fun m i wr => ∃ k : Nat, k ≤ n ∧ n - k ≤ m ∧ i = .int .i64 k ∧ Below w1.heap.size w1 wr ∧ ∃ t : PT, Rep w1.heap.size wr w1.heap.size .top t ∧ t.tr = gro .nil (l.take k))
  case atStart =>
    refine ⟨0, Nat.zero_le _, by omega, rfl, (Below.refl _ _).alloc (Nat.le_refl _) _, .nil, ⟨?_, trivial, ?_, ?_⟩, rfl⟩
    · exact heap_alloc_new w1 _
    · simp [PT.bs, PC.bs]
    · intro x hx
      simp [PT.bs, PC.bs] at hx
      omega
  case round =>
    obtain ⟨k, hk, hkm, rfl, hnx, t, hR, ht⟩ := hrel
    have HNX := Lib.hid hnx
    have HR := Lib.hid hR
    have HT := Lib.hid ht
    have hsz := hnx.size
    clear hnx hR ht
    by_cases hlt : k < n
    · obtain ⟨b, off, rfl, hb, hc⟩ := H1.out.at_ (by omega)
      have hkl : k < l.length := by rw [HL.out]; exact hlt
      have hck : wr.cell? ⟨b, off + k, none⟩ = some (I l[k]) := by rw [HNX.out.cell (by exact hb), hc k hlt]
      have HX := Lib.hid (show l[k] ∉ t.tr.ks by
        rw [HT.out, mem_gro]
        rintro (h | h)
        · simp [Tr.ks] at h
        · exact not_nodup hkl h HND.out)
      have HT2 := Lib.hid (gro_take .nil l k hkl)
      clear hc
      generalize l[k] = x at hck HX HT2
      go_wp2_with fail
      refine (placeOf_any _ _ t x wr HR.out).mono ?_
      rintro e w2 ⟨c1, s, b1, o1, rfl, ea, rfl, hR2, _, hf, _⟩
      have hcl : (w2.alloc (.cells #[I x, .pointer none, .pointer none] 63)).cell? ⟨b1, o1, none⟩ = some (.pointer s.q) := by rw [← ea]; exact (hR2.alloc _).ctx.cell.1
      have hfz : (w2.alloc (.cells #[I x, .pointer none, .pointer none] 63)).frozen? ⟨b1, o1, none⟩ = false := by rw [← ea]; exact (hR2.alloc _).ctx.cell.2
      have hbl : w1.heap.size ≤ b1 := by have := hR2.blk; rw [ea] at this; exact this
      have HNW := Lib.hid (hR2.newLeaf hf HX.out hsz)
      have EA := Lib.hid ea
      clear hR2 hf ea
      go_wp2
      go_roundg (gk - 1)
      case measure => omega
      case rel =>
        obtain ⟨t', hR', et'⟩ := HNW.out
        rw [EA.out] at hR'
        refine ⟨k + 1, by omega, by omega, by go_num, ((HNX.out.alloc hsz _).setCell hbl _), t', hR', ?_⟩
        rw [et', HT2.out, HT.out]
    · have HTL := Lib.hid (show t.tr = gro .nil l by rw [HT.out, List.take_of_length_le (by rw [HL.out]; omega)])
      have HSZ := Lib.hid (show t.tr.size = n by rw [HTL.out, size_gro l .nil HND.out (by simp [Tr.ks]), HL.out]; simp [Tr.size])
      have htop : wr.cell? ⟨w1.heap.size, 0, none⟩ = some (.pointer t.q) := HR.out.ctx.cell.1
      go_wp2_with fail
      refine (spots_any t wr.heap.size (.slice none 0 0) [] 0 wr HR.out.lay (fun x hx => HR.out.lay.lt x hx) (World.ownsRow_nil _ _ _ _) (Nat.le_refl _) (by rw [HSZ.out]; simp; omega) (Int.le_refl _) (by rw [HSZ.out]; omega)).mono ?_
      rintro e w3 ⟨v3, rfl, ho3, hb3⟩
      obtain ⟨A3, c3, rfl, hps, _⟩ := OwnR.ps ho3
      have HPS := Lib.hid hps
      have HB3 := Lib.hid hb3
      clear ho3 hps hb3
      go_wp2
      go_ret2
      have HSL := Lib.hid (show (([] : PL) ++ t.tr.sp 0) = (gro .nil l).sp 0 by rw [HTL.out]; simp)
      refine ⟨A3, _, c3, rfl, ?_, (HB1.out.trans (HNX.out.mono HB1.out.size)).trans (HB3.out.mono (by have := HB1.out.size; omega))⟩
      have := HPS.out
      rw [← HSL.out]
      exact this

end Go.Proofs.Ytcjhglejmmphbaa
