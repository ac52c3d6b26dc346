/-
  The desk: what the library's variables hold; words in memory; slips.
-/
import Derived.Test.YtpnjnedfcdppaaaGreatDoorDRefPAll
import Derived.Test.YtpnjnedfcdppaaaGreatDoorKRef1All
import Derived.Test.YtpnjnedfcdppaaaGreatDoorInts
import Derived.Test.YtpnjnedfcdppaaaGreatDoorShelf
import Derived.Test.YtpnjnedfcdppaaaGreatDoorDoT
namespace Go.Proofs.YtpnjnedfcdppaaaGreatDoor
open Go.RowKit

abbrev bsv (l : List UInt8) : ByteArray := ⟨l.toArray⟩
theorem bsv_data (l : List UInt8) : (bsv l).data.toList = l := by simp
theorem bsv_of (s : ByteArray) : bsv s.data.toList = s := by simp
theorem bsv_size (l : List UInt8) : (bsv l).size = l.length := by show (bsv l).data.size = _; simp
theorem bsv_app (a b : List UInt8) : bsv a ++ bsv b = bsv (a ++ b) := by
  apply ByteArray.ext
  rw [ByteArray.data_append]
  simp
def Pw (w : World) : Prop := Lib.TabIs Tryz.prog w "internal/strconv.uint64pow10" .u64 Lib.pow10Tab
theorem pw_glob : Tryz.prog.globalNamed "internal/strconv.uint64pow10" = some 4 := by kernel_rfl
theorem Pw.same {w w' : World} (h : Pw w) (e : w'.heap[4]? = w.heap[4]?) : Pw w' := by
  unfold Pw Lib.TabIs World.var? at h ⊢
  rw [pw_glob] at h ⊢
  simp only [Option.bind_some] at h ⊢
  rw [e]
  exact h
structure LD (w : World) : Prop where
  tb : Tb w
  pw : Pw w
  ml : ∃ m : Int, w.cell? ⟨0, 0, none⟩ = some (I m)
  lo : 6 ≤ w.heap.size
theorem LD.below {w w' : World} {B : Nat} (h : LD w) (hb : Below B w w') (hB : 6 ≤ B) (hs : w.heap.size ≤ w'.heap.size) : LD w' :=
  ⟨h.tb.below hb (by omega), h.pw.same (hb.block _ (by omega)), let ⟨m, hm⟩ := h.ml; ⟨m, (hb.cell (by show 0 < B; omega)).trans hm⟩, by have := h.lo; omega⟩
theorem LD.next {w w' : World} (h : LD w) (hb : Below w.heap.size w w') : LD w' := h.below hb h.lo hb.size

/- words -/
def wf (l : List (List UInt8)) (i _ : Nat) : Value := .string (bsv (l[i]?.getD []))
structure WS (w : World) (A : Option Addr) (n c : Nat) (l : List (List UInt8)) : Prop where
  len : l.length = n
  rd : Rd w w.heap.size 1 A n c (wf l)
theorem WS.below {w w' : World} {n c : Nat} {A : Option Addr} {l : List (List UInt8)} (h : WS w A n c l) (hb : Below w.heap.size w w') : WS w' A n c l := ⟨h.len, h.rd.below hb⟩
theorem WS.at_ {w : World} {n c : Nat} {A : Option Addr} {l : List (List UInt8)} (h : WS w A n c l) (hn : 0 < n) :
    ∃ b off, A = some ⟨b, off, none⟩ ∧ b < w.heap.size ∧ ∀ i (hi : i < n), w.cell? ⟨b, off + i, none⟩ = some (.string (bsv (l[i]'(by rw [h.len]; exact hi)))) := by
  obtain ⟨b, off, e, hb, hc⟩ := h.rd.2 hn
  refine ⟨b, off, e, hb, fun i hi => ?_⟩
  have hl : i < l.length := by rw [h.len]; exact hi
  have h0 := hc i hi 0 (by omega)
  rw [Nat.mul_one, Nat.add_zero] at h0
  rw [h0]
  simp [wf, List.getElem?_eq_getElem hl]
theorem WS.cap {w : World} {n c : Nat} {A : Option Addr} {l : List (List UInt8)} (h : WS w A n c l) : n ≤ c := h.rd.1
theorem WS.block {w : World} {g t c : Nat} {fz : Nat × Nat} {xs : List (List UInt8)} {more : List Value} (h : w.heap[g]? = some (.cells (xs.map (fun x => Value.string (bsv x)) ++ more).toArray t fz)) (hc : xs.length ≤ c) : WS w (some ⟨g, 0, none⟩) xs.length c xs := by
  refine ⟨rfl, hc, fun _ => ⟨g, 0, rfl, (Array.getElem?_eq_some_iff.1 h).1, fun i hi j hj => ?_⟩⟩
  obtain rfl : j = 0 := by omega
  have : (⟨g, 0 + (i * 1 + 0), none⟩ : Addr) = ⟨g, i, none⟩ := by congr 1; omega
  rw [this]
  simp [World.cell?, h, wf, List.getElem?_append_left, hi]
theorem WS.tail {w : World} {n c : Nat} {A A' : Option Addr} {x : List UInt8} {l : List (List UInt8)} (h : WS w A (n + 1) c (x :: l)) (hA : ∀ b off, A = some ⟨b, off, none⟩ → 0 < n → A' = some ⟨b, off + 1, none⟩) : WS w A' n (c - 1) l := by
  have hl : l.length = n := by have := h.len; simp at this; omega
  refine ⟨hl, by have := h.rd.1; omega, fun hn => ?_⟩
  obtain ⟨b, off, e, hb, hc⟩ := h.rd.2 (by omega)
  refine ⟨b, off + 1, hA b off e hn, hb, fun i hi j hj => ?_⟩
  have h0 := hc (i + 1) (by omega) j hj
  obtain rfl : j = 0 := by omega
  have e1 : off + ((i + 1) * 1 + 0) = off + 1 + (i * 1 + 0) := by omega
  rw [e1] at h0
  rw [h0]
  simp [wf]

def slipC (e : Int) : List PanicEntry := [{ v := .iface 156 (I e), recovered := false }]

theorem below_growD (w : World) (k : Nat) (os : Array Obj) : Below w.heap.size w (Go.Sort.grow (w.drewN k) os) := by
  have h : Below w.heap.size w (w.drewN k) := below_drewN (Below.refl _ _) k
  have hs : (w.drewN k).heap.size = w.heap.size := rfl
  refine ⟨h.os, h.tape, h.output, ?_, fun j hj => ?_⟩
  · simp only [Go.Sort.grow, Array.size_append]
    omega
  · simp only [Go.Sort.grow]
    rw [Array.getElem?_append_left (by omega)]
    exact h.block j hj
theorem itoa_any (n : Nat) (hn : n < 1000000000000000000) (w : World) (h : LD w) :
    Calls Tryz.prog 86 #[I n] w fun e w' => e = .returned (.string (bsv (dg n))) ∧ Below w.heap.size w w' := by
  refine (Tryz.strconv_Itoa (n : Int) (by omega) (by omega) w h.pw).mono ?_
  rintro e w' ⟨rfl, k, os, rfl⟩
  refine ⟨?_, ?_⟩
  · rw [dg_itoa (by omega)]
  · exact below_growD w k os
end Go.Proofs.YtpnjnedfcdppaaaGreatDoor
