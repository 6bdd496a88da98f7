/- planisphereref04.Near. -/
import Derived.Test.YtlagolgmkmdhhaaRgTri2
namespace Go.Proofs.Ytlagolgmkmdhhaa.Rg
open Go.RowKit Go.Sort Go.Shelf
open Go.Proofs.Ytlagolgmkmdhhaa.Geo hiding intOf Apart
set_option maxRecDepth 100000 in
set_option maxHeartbeats 1000000 in
theorem near_any (a : Option Addr) (n cap : Nat) (l : List Pt) (w : World) (hl : Pts w w.heap.size a l) (hln : n = l.length) (hn : n ≤ maxLen) :
    Calls Try.prog 19 #[.slice a n cap] w fun e w' => e = .returned (.bool (l.all nearB)) ∧ Below w.heap.size w w' := by
  subst hln
  unfold maxLen at hn
  have HL := Lib.hid hl
  clear hl
  go_enter Try.func19, Try.ntmps19
  go_wp2
  go_loopw [3] (fun i wr => ∃ k : Nat, k ≤ l.length ∧ i = .int .i64 k ∧ Hid ((l.take k).any farB = false) ∧ Hid (Below w.heap.size w wr)) (fun i _ => l.length - (intOf i).toNat)
  case atStart => exact ⟨0, by omega, rfl, rfl, Lib.hid (Below.refl _ _)⟩
  case round =>
    obtain ⟨k, hk, rfl, hall, hb⟩ := hrel
    by_cases hlt : k < l.length
    · obtain ⟨p, hp⟩ : ∃ p, l[k]? = some p := ⟨_, List.getElem?_eq_getElem hlt⟩
      obtain ⟨b, off, rfl, hbN, c0, c1⟩ := (HL.out.below hb.out).at_ hp
      have HP := Lib.hid hp
      clear hp
      go_wp2_with fail
      refine (is_any p _).mono ?_
      rintro e w1 ⟨rfl, hb1⟩
      have hb' := Lib.hid (hb.out.trans (hb1.mono hb.out.size))
      clear hb1 c0 c1
      cases hq : nearB p with
      | false =>
        have hf := Lib.hid (far_at HP.out hq)
        have hr := Lib.hid (show false = l.all nearB by rw [← not_far, hf.out]; rfl)
        go_wp2
        go_ret
        exact ⟨ret_bool hr.out, hb'.out⟩
      | true =>
        have hall' := Lib.hid (far_step HP.out hq hall.out)
        clear hall hq
        go_wp2
        go_roundw
        case rel => exact ⟨k + 1, by omega, by go_num, hall', hb'⟩
        case measure => simp [intOf]; omega
    · obtain rfl : k = l.length := by omega
      rw [List.take_length] at hall
      have hr := Lib.hid (show true = l.all nearB by rw [← not_far, hall.out]; rfl)
      go_wp2
      go_ret
      exact ⟨ret_bool hr.out, hb.out⟩
/-- points that are laid out in a new block. -/
theorem pts_new (w : World) (l : List Pt) (cs : Array Value) (h : cs = (flat l).toArray) : Pts (w.alloc (.cells cs 24)) (w.alloc (.cells cs 24)).heap.size (some ⟨w.heap.size, 0, none⟩) l := fun _ => by
  subst h
  have r := IsRow.made w 24 (flat l).toArray
  refine ⟨w.heap.size, 0, rfl, by simp, fun k p hk => ?_⟩
  obtain ⟨f0, f1⟩ := flat_get hk
  constructor
  · rw [show 0 + k * 2 = k * 2 by omega, r.get (k * 2)]; simpa using f0
  · rw [show 0 + k * 2 + 1 = k * 2 + 1 by omega, r.get (k * 2 + 1)]; simpa using f1
end Go.Proofs.Ytlagolgmkmdhhaa.Rg
