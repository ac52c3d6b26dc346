/-
  Joined texts: YtpnjnedfcdppaaaGreatDoorMapK, YtpnjnedfcdppaaaGreatDoorKKeys.
-/
import Derived.Test.YtpnjnedfcdppaaaGreatDoorInts
import Derived.Test.YtpnjnedfcdppaaaGreatDoorChecked
import Derived.Deep.AppendLies
/-
  hedgref.MapKeys.
-/
namespace Go.Proofs.YtpnjnedfcdppaaaGreatDoor
open Go.RowKit

def kys (l : PL) : List Int := l.map Prod.fst
def RetI (L : List Int) (w : World) (e : Ending) (w' : World) : Prop := ∃ A c, e = .returned (.slice A L.length c) ∧ IS w' A L.length c L ∧ Below w.heap.size w w'
theorem kys_take (l : PL) (k : Nat) (h : k < l.length) : kys (l.take (k + 1)) = kys (l.take k) ++ [l[k].1] := by
  unfold kys
  rw [List.take_succ_eq_append_getElem h, List.map_append]
  rfl

theorem IS.cell_at {w : World} {A : Option Addr} {n c : Nat} {l : List Int} (h : IS w A n c l) {k : Nat} (hk : k < n) : ∃ b off, A = some ⟨b, off, none⟩ ∧ b < w.heap.size ∧ w.cell? ⟨b, off + k, none⟩ = some (I (l[k]'(by rw [h.len]; exact hk))) := by
  obtain ⟨b, off, e, hb, hc⟩ := h.at_ (by omega)
  exact ⟨b, off, e, hb, hc k hk⟩
def kysTo (l : PL) (k : Nat) : List Int := (kys l).take k ++ List.replicate (l.length - k) 0
theorem kys_len (l : PL) : (kys l).length = l.length := by simp [kys]
theorem kysTo_len (l : PL) (k : Nat) (h : k ≤ l.length) : (kysTo l k).length = l.length := by simp [kysTo, kys_len]; omega
theorem kysTo_set (l : PL) (k : Nat) (h : k < l.length) : (kysTo l k).set k l[k].1 = kysTo l (k + 1) := by
  unfold kysTo
  have h1 : ((kys l).take k).length = k := by simp [kys_len]; omega
  rw [List.set_append_right _ _ (by omega), h1, Nat.sub_self, List.take_succ_eq_append_getElem (by rw [kys_len]; exact h), show l.length - k = l.length - (k + 1) + 1 by omega, List.replicate_succ]
  simp [kys]
theorem kysTo_all (l : PL) : kysTo l l.length = kys l := by
  unfold kysTo
  rw [List.take_of_length_le (by rw [kys_len]; exact Nat.le_refl _)]
  simp

set_option maxRecDepth 100000 in
set_option maxHeartbeats 1000000 in
theorem MapKeys_any (A : Option Addr) (n c : Nat) (l : PL) (w : World) (h : PS w A n c l) (hn : n ≤ 1000) :
    Calls Tryz.prog 106 #[.slice A n c] w (RetI (kys l) w) := by
  have H := Lib.hid h
  have HL := Lib.hid h.len
  clear h
  obtain ⟨i0, hi, hz0, hz1, hz2⟩ := info_parts int_info
  have HI := Lib.hid hi
  have HZ0 := Lib.hid hz0
  have HZ1 := Lib.hid hz1
  have HZ2 := Lib.hid hz2
  clear hi hz0 hz1 hz2
  go_enter Tryz.func106, Tryz.ntmps106
  go_wp2
  go_loopw [3, 8] (fun v i wr => ∃ k : Nat, k ≤ n ∧ i = .int .i64 k ∧ OwnI wr w.heap.size v (kys (l.take k)) ∧ Below w.heap.size w wr) (fun _ i _ => n - (intOf i).toNat)
  case atStart => exact ⟨0, Nat.zero_le _, rfl, World.ownsRow_nil _ _ _ _, Below.refl _ _⟩
  case round =>
    obtain ⟨k, hk, rfl, hown, hnx⟩ := hrel
    by_cases hlt : k < n
    · have hkl : k < l.length := by rw [HL.out]; exact hlt
      obtain ⟨b, off, rfl, hbw, hcs⟩ := H.out.at_ (by omega)
      obtain ⟨x, hx⟩ : ∃ x, l[k].1 = x := ⟨_, rfl⟩
      obtain ⟨y, hy⟩ : ∃ y, l[k].2 = y := ⟨_, rfl⟩
      have hc0 : wr.cell? ⟨b, off + k * 2, none⟩ = some (I x) := by rw [← hx]; exact (hnx.cell (by exact hbw)).trans (hcs k hlt).1
      have hc1 : wr.cell? ⟨b, off + k * 2 + 1, none⟩ = some (I y) := by rw [← hy]; exact (hnx.cell (by exact hbw)).trans (hcs k hlt).2
      have HK := Lib.hid (kys_take l k hkl)
      rw [hx] at HK
      obtain ⟨xs, hxs⟩ : ∃ xs, kys (l.take k) = xs := ⟨_, rfl⟩
      have hxl : xs.length ≤ 1000 := by rw [← hxs]; simp [kys]; omega
      rw [hxs] at hown HK
      have HOWN := Lib.hid hown
      have HNX := Lib.hid hnx
      have hz := hnx.size
      clear hcs hx hy hown hnx hxs
      go_wp2_with (first
        | (at_builtin
           refine wpList_append_own_at _ rfl (.tmp 12) (.tmp 15) 46 rfl w.heap.size 3 i0 _ 1 8 Tryz.underlying46 HI.out HZ0.out HZ1.out HZ2.out rfl (by omega) _ xs.length (xs.map I) rfl (own_below HOWN.out (((Below.refl _ _).alloc (Nat.le_refl _) _).alloc (by simp) _)) ⟨wr.heap.size + 1, 0, none⟩ 1 1 [I x] rfl rfl (by have := cell_one_new (wr.alloc (.cells #[I x, I y] 48)) (I x) 3; simpa using this) (one_I x) (by unfold maxLen; omega) (by omega) (by simp; omega) ?_
           intro v2 w2 hown2 hgrow2 _ hat2)
        | fail)
      go_roundw
      case rel =>
        refine ⟨k + 1, by omega, by go_num, ?_, ?_⟩
        · rw [HK.out]
          unfold OwnI
          simpa using hown2
        · exact Below.grown ((HNX.out.alloc hz _).alloc (by simp; omega) _) hgrow2 (by simp; omega) (own_ge1 HOWN.out)
      case measure => simp [intOf]; omega
    · rw [List.take_of_length_le (by rw [HL.out]; omega)] at hown
      obtain ⟨A', c', rfl, his, _⟩ := hown.is_
      have HIS := Lib.hid his
      have HNX := Lib.hid hnx
      clear his hnx hown
      go_wp2
      go_ret
      exact ⟨A', c', rfl, HIS.out, HNX.out⟩

end Go.Proofs.YtpnjnedfcdppaaaGreatDoor

/-
  hedgref: MapKeys, Reversed.
-/
namespace Go.Proofs.YtpnjnedfcdppaaaGreatDoor
open Go.RowKit

end Go.Proofs.YtpnjnedfcdppaaaGreatDoor
