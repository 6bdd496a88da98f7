/- tag: the builder's writers keep a row of a tag. -/
import Derived.Test.YtlknbjaippfemaaTgFew
import Derived.Test.YtlknbjaippfemaaLxQuote
namespace Go.Proofs.Ytlknbjaippfemaa.Tg
open Go.RowKit
open Lx hiding intOf
theorem bld_tag {w : World} {b c0 : Nat} {xs cs : Array Value} (h : IsRow w b 59 xs) (hr : IsRow w c0 43 cs) : c0 ≠ b := by
  rintro rfl
  unfold IsRow at h hr
  rw [h] at hr
  injection hr with hr
  injection hr with _ e
  exact absurd e (by decide)
theorem own_tag {w : World} {Z c0 n : Nat} {v : Value} {xs : List Value} {cs : Array Value} (h : w.ownsRow Z 5 1 v n xs) (hr : IsRow w c0 43 cs) : v.ownBlock ≠ some c0 := by
  intro e
  obtain ⟨_, ⟨rfl, _⟩ | ⟨g, cap, cur, rfl, _, hg, _⟩⟩ := h
  · cases e
  · have e2 : g = c0 := by simpa [Value.ownBlock] using e
    subst e2
    unfold IsRow at hr
    rw [hg] at hr
    injection hr with hr
    injection hr with _ e
    exact absurd e (by decide)
theorem check_row (Z b c0 : Nat) (cs : Array Value) (bs : List Value) (w : World) (h : Holds Z b bs w) (hr : IsRow w c0 43 cs) :
    Calls Try.prog 51 #[.pointer (some ⟨b, 0, none⟩)] w fun e w' => e = .returned (.tuple #[]) ∧ Used Z b bs w' ∧ Below Z w w' ∧ IsRow w' c0 43 cs := by
  rcases h with h | h
  · refine (check_fresh b w h.cell0 h.shape h.frozen0).mono ?_
    rintro e w' ⟨rfl, rfl⟩
    obtain ⟨hZ, v, hb, ho, hn⟩ := h
    exact ⟨rfl, Lib.BuilderAt.used ⟨hZ, v, hb, ho, hn⟩ _, (Below.refl Z w).setCell (p := ⟨b, 0, none⟩) hZ _, hr.putOther (p := ⟨b, 0, none⟩) (bld_tag (b := b) (show IsRow w b 59 _ from hb) hr) _⟩
  · refine (check_used b w h.cell0).mono ?_
    rintro e w' ⟨rfl, rfl⟩
    exact ⟨rfl, h, Below.refl Z _, hr⟩
set_option maxRecDepth 100000 in
set_option maxHeartbeats 1000000 in
theorem writeByte_row (Z b c0 : Nat) (cs : Array Value) (bs : List Value) (c : Int) (w : World) (h : Holds Z b bs w) (hr : IsRow w c0 43 cs) (hlen : bs.length + 1 ≤ 140737488355328) :
    Calls Try.prog 32 #[.pointer (some ⟨b, 0, none⟩), .int .u8 c] w fun e w' => e = .returned .nilIface ∧ Used Z b (bs ++ [.int .u8 c]) w' ∧ Below Z w w' ∧ IsRow w' c0 43 cs := by
  obtain ⟨i0, hi, hz0, hz1, hz2⟩ := info_parts bt_info
  go_enter Try.func32, Try.ntmps32
  go_wp2_with fail
  have HR := Lib.hid hr
  clear hr
  refine (check_row Z b c0 cs bs _ h HR.out).mono ?_
  rintro e w1 ⟨rfl, h1, hb1, hr1⟩
  have R1 := Lib.hid hr1
  clear hr1 HR
  obtain ⟨v, hB, hrow, hown, hne⟩ := parts h1
  have c0a := hrow.get 0
  have c1 : w1.cell? ⟨b, 1, none⟩ = some v := hrow.get 1
  have hBw : Z ≤ w1.heap.size := Nat.le_trans hB (Nat.le_of_lt hrow.inside)
  go_wp2_with (at_builtin; refine wpList_append_own _ rfl _ _ 57 rfl Z 5 i0 (.int .u8 0) 1 1 Try.underlying57 hi hz0 hz1 hz2 rfl (by decide) _ _ _ rfl (hown.alloc _) ⟨w1.heap.size, 0, none⟩ 1 1 [.int .u8 c] rfl rfl ?c1 ?c2 ?c3 ?c4 ?c5 ?_)
  case c1 =>
    intro j u hj
    match j, hj with
    | 0, hj => simp at hj; subst hj; simp [Addr.add]
  case c2 => intro u hu; simp at hu; subst hu; rfl
  case c3 => unfold maxLen; omega
  case c4 => omega
  case c5 => simp; omega
  intro v' w2 hown' hgrow _
  have hrow2 : IsRow w2 b 59 #[.pointer (some ⟨b, 0, none⟩), v] := by
    unfold IsRow
    rw [hgrow.block b (by simp; have := hrow.inside; omega) (fun e => hne e.symm)]
    exact hrow.later _
  have d0 := hrow2.get 0
  have d1 : w2.cell? ⟨b, 1, none⟩ = some v := hrow2.get 1
  have f1 := hrow2.open_ 1
  obtain ⟨g, cap, rfl⟩ : ∃ g cap, v' = .slice (some ⟨g, 0, none⟩) (bs.length + 1) cap := by
    rcases hown'.2 with ⟨_, h0⟩ | ⟨g, cap, cur, hv, _⟩
    · omega
    · exact ⟨g, cap, hv⟩
  go_wp2
  go_ret
  refine ⟨rfl, ?_, ?_, ?_⟩
  · exact Lib.BuilderAt.put (T := 59) (e := 5) hB hrow2 (bs' := bs ++ [.int .u8 c]) (by simpa using hown') (by decide)
  · exact ((hb1.alloc hBw _).grown hgrow (by simp; omega) (fun k hk => (hown.lt k hk).1)).setCell (p := ⟨b, 1, none⟩) hB _
  · exact IsRow.putOther (IsRow.grown (R1.out.later _) hgrow (own_tag hown R1.out)) (p := ⟨b, 1, none⟩) (bld_tag hrow R1.out) _
set_option maxRecDepth 100000 in
set_option maxHeartbeats 1000000 in
theorem writeString_row (Z b c0 : Nat) (cs : Array Value) (bs : List Value) (s : ByteArray) (w : World) (h : Holds Z b bs w) (hr : IsRow w c0 43 cs) (hlen : bs.length + s.size ≤ 140737488355328) :
    Calls Try.prog 33 #[.pointer (some ⟨b, 0, none⟩), .string s] w fun e w' => e = .returned (.tuple #[.int .i64 s.size, .nilIface]) ∧ Used Z b (bs ++ Lib.strCells s) w' ∧ Below Z w w' ∧ IsRow w' c0 43 cs := by
  obtain ⟨i0, hi, hz0, hz1, hz2⟩ := info_parts bt_info
  go_enter Try.func33, Try.ntmps33
  go_wp2_with fail
  have HR := Lib.hid hr
  clear hr
  refine (check_row Z b c0 cs bs _ h HR.out).mono ?_
  rintro e w1 ⟨rfl, h1, hb1, hr1⟩
  have R1 := Lib.hid hr1
  clear hr1 HR
  obtain ⟨v, hB, hrow, hown, hne⟩ := parts h1
  have c0a := hrow.get 0
  have c1 : w1.cell? ⟨b, 1, none⟩ = some v := hrow.get 1
  have hBw : Z ≤ w1.heap.size := Nat.le_trans hB (Nat.le_of_lt hrow.inside)
  go_wp2_with (at_builtin; refine Lib.wpList_append_own_string _ rfl _ _ 57 9 rfl Z 5 i0 Try.underlying57 Try.underlying9 hi hz0 hz1 hz2 _ _ _ rfl hown s rfl ?c3 ?c4 ?c5 ?_)
  case c3 => unfold maxLen; omega
  case c4 => omega
  case c5 => exact hBw
  intro v' w2 hown' hgrow _
  have hrow2 : IsRow w2 b 59 #[.pointer (some ⟨b, 0, none⟩), v] := by
    unfold IsRow
    rw [hgrow.block b hrow.inside (fun e => hne e.symm)]
    exact hrow
  have d0 := hrow2.get 0
  have d1 : w2.cell? ⟨b, 1, none⟩ = some v := hrow2.get 1
  have f1 := hrow2.open_ 1
  obtain ⟨ao, n', cap, rfl⟩ : ∃ ao n' cap, v' = .slice ao n' cap := by
    rcases hown'.2 with ⟨hv, _⟩ | ⟨g, cap, cur, hv, _⟩
    · exact ⟨_, _, _, hv⟩
    · exact ⟨_, _, _, hv⟩
  go_wp2
  go_ret2
  refine ⟨rfl, ?_, ?_, ?_⟩
  · exact Lib.BuilderAt.put (T := 59) (e := 5) hB hrow2 (bs' := bs ++ Lib.strCells s) (by simpa [Lib.strCells_length] using hown') (by decide)
  · exact (hb1.grown hgrow hBw (fun k hk => (hown.lt k hk).1)).setCell (p := ⟨b, 1, none⟩) hB _
  · exact IsRow.putOther (IsRow.grown R1.out hgrow (own_tag hown R1.out)) (p := ⟨b, 1, none⟩) (bld_tag hrow R1.out) _
end Go.Proofs.Ytlknbjaippfemaa.Tg
