/-
  hedgref.SortedKeys, HeldOften.
-/
import Derived.Test.YtolfpjleckckiaaGRefKAll
namespace Go.Proofs.Ytolfpjleckckiaa
open Go.RowKit

theorem last_succ {s : List Int} {j : Nat} (h : j < s.length) : prevOf s (j + 1) = s[j] := by
  unfold prevOf
  rw [if_neg (by omega), Nat.add_sub_cancel, List.getElem?_eq_getElem h]
  rfl

set_option maxRecDepth 100000 in
set_option maxHeartbeats 2000000 in
theorem SortedKeys_more (A : Option Addr) (n c : Nat) (l : List Int) (w : World) (h : IS w A n c l) (hl2 : l.length ≤ 400) (hrg : ∀ x ∈ l, 0 ≤ x) (hnd : l.Nodup) :
    Calls Try.prog 27 #[.slice A n c] w (RetOwn (qs l) w.heap.size w) := by
  have hn2 : n ≤ 400 := by rw [← h.len]; exact hl2
  have hs := qs_gro _ l (Nat.le_refl _) hnd
  have HUP : Hid (Up (qs l)) := by show Up _; rw [hs]; exact up_gro up_nil l
  have HMM : Hid (∀ x, x ∈ qs l ↔ x ∈ l) := fun x => by
    rw [hs, mem_gro]
    simp [Tr.ks]
  have HSL : Hid ((qs l).length = n) := by show _ = _; rw [qs_length _ l (Nat.le_refl _), h.len]
  have HPO : Hid (∀ x ∈ l, 0 ≤ x) := hrg
  have H := Lib.hid h
  have HL := Lib.hid h.len
  generalize qs l = s at *
  clear h hl2 hrg hnd hs
  go_enter Try.func27, Try.ntmps27
  go_wp2
  go_loopg [3, 4, 10] n (fun m v la i wr => ∃ j : Nat, j ≤ n ∧ n - j ≤ m ∧ i = .int .i64 j ∧ la = I (prevOf s j) ∧ OwnI wr w.heap.size v (s.take j) ∧ Below w.heap.size w wr)
  case atStart => exact ⟨0, Nat.zero_le _, by omega, rfl, rfl, World.ownsRow_nil _ _ _ _, Below.refl _ _⟩
  case round =>
    obtain ⟨j, hj, hjm, rfl, rfl, hown, hnx⟩ := hrel
    have HOWN := Lib.hid hown
    have HNX := Lib.hid hnx
    have hsz := hnx.size
    clear hown hnx
    by_cases hjn : j < n
    · have hjs : j < s.length := by rw [HSL.out]; exact hjn
      have HNE := Lib.hid (nx_next HPO.out HUP.out HMM.out j hjs)
      have HLS := Lib.hid (last_succ hjs)
      have HTS := Lib.hid (take_snoc hjs)
      have htl : (s.take j).length ≤ 400 := by rw [List.length_take]; omega
      generalize s[j] = y at HNE HLS HTS
      generalize prevOf s j = la at *
      go_wp2
      go_loopg [5, 14] n (fun m ne i wr' => ∃ k : Nat, k ≤ n ∧ n - k ≤ m ∧ i = .int .i64 k ∧ wr' = wr ∧ ne = I (nx la (l.take k)))
      case atStart => exact ⟨0, Nat.zero_le _, by omega, rfl, rfl, rfl⟩
      case round =>
        obtain ⟨k, hk, hkm, rfl, rfl, rfl⟩ := hrel
        by_cases hkn : k < n
        · obtain ⟨b, off, rfl, hb, hc⟩ := H.out.at_ (by omega)
          have hkl : k < l.length := by rw [HL.out]; exact hkn
          have hck : wr.cell? ⟨b, off + k, none⟩ = some (I l[k]) := (HNX.out.cell (by exact hb)).trans (hc k hkn)
          have HN := Lib.hid (show nx la (l.take (k + 1)) = nxS la (nx la (l.take k)) l[k] by rw [take_snoc hkl, nx_snoc])
          clear hc
          generalize l[k] = x at *
          generalize nx la (l.take k) = ne at *
          by_cases h1 : la < x
          · by_cases h2 : ne < 0
            · have HN2 : Hid (nx la (l.take (k + 1)) = x) := by show _ = _; rw [HN.out, nxS, if_pos ⟨h1, .inl h2⟩]
              go_wp2
              go_roundg (n - (k + 1))
              case measure => omega
              case rel => exact ⟨k + 1, by omega, Nat.le_refl _, by go_num, rfl, by rw [HN2.out]⟩
            · by_cases h3 : x < ne
              · have HN2 : Hid (nx la (l.take (k + 1)) = x) := by show _ = _; rw [HN.out, nxS, if_pos ⟨h1, .inr h3⟩]
                go_wp2
                go_roundg (n - (k + 1))
                case measure => omega
                case rel => exact ⟨k + 1, by omega, Nat.le_refl _, by go_num, rfl, by rw [HN2.out]⟩
              · have HN2 : Hid (nx la (l.take (k + 1)) = ne) := by show _ = _; rw [HN.out, nxS, if_neg (fun q => by rcases q.2 with q | q <;> omega)]
                go_wp2
                go_roundg (n - (k + 1))
                case measure => omega
                case rel => exact ⟨k + 1, by omega, Nat.le_refl _, by go_num, rfl, by rw [HN2.out]⟩
          · have HN2 : Hid (nx la (l.take (k + 1)) = ne) := by show _ = _; rw [HN.out, nxS, if_neg (fun q => h1 q.1)]
            go_wp2
            go_roundg (n - (k + 1))
            case measure => omega
            case rel => exact ⟨k + 1, by omega, Nat.le_refl _, by go_num, rfl, by rw [HN2.out]⟩
        · have ht : l.take k = l := List.take_of_length_le (by rw [HL.out]; omega)
          rw [ht, HNE.out]
          clear ht
          go_wp2_with (first
            | (at_builtin
               refine wpList_app1 rfl (.tmp 32) (.tmp 34) 23 rfl 3 Try.underlying23 int_info w.heap.size u3 (s.take j) [y] (some ⟨wr.heap.size, 0, none⟩) 1 1 rfl rfl (own_below HOWN.out ((Below.refl _ _).alloc (Nat.le_refl _) _)) (srcI_one wr y) (by omega) (by simp; omega) ?_
               intro v2 w2 hown2 hgrow2 hat2)
            | fail)
          have HB2 := Lib.hid ((HNX.out.alloc hsz _).grown hgrow2 (by simp; omega) (own_ge1 HOWN.out))
          have HO2 : Hid (OwnI w2 w.heap.size v2 (s.take (j + 1))) := by show OwnI _ _ _ _; rw [HTS.out]; exact hown2
          clear hown2 hgrow2 hat2
          go_wp2
          go_roundg (n - (j + 1))
          case measure => omega
          case rel => exact ⟨j + 1, by omega, Nat.le_refl _, by go_num, by rw [HLS.out], HO2.out, HB2.out⟩
    · have ht : s.take j = s := List.take_of_length_le (by rw [HSL.out]; omega)
      rw [ht] at HOWN
      clear ht
      go_wp2
      go_ret
      exact ⟨u3, rfl, HOWN.out, HNX.out⟩

theorem SortedKeys_any (A : Option Addr) (n c : Nat) (l : List Int) (w : World) (h : IS w A n c l) (hu : unl l = 0) :
    Calls Try.prog 27 #[.slice A n c] w (RetOwn (qs l) w.heap.size w) := by
  obtain ⟨hl2, hrg, hnd⟩ := unl_zero.1 hu
  exact SortedKeys_more A n c l w h (by omega) (fun x hx => (hrg x hx).1) hnd

end Go.Proofs.Ytolfpjleckckiaa
