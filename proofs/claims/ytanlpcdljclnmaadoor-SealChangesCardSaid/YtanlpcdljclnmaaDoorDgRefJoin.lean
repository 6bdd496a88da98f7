/- The reference's joined texts by contract: Joined. -/
import Derived.Test.YtanlpcdljclnmaaDoorDgDec
namespace Go.Proofs.YtanlpcdljclnmaaDoor.Dg
open Go.RowKit
theorem string_of_own {P : Program} (w : World) (src dst e : TypeId) (B : Nat) (v : Value) (t : List UInt8) (ho : w.ownsRow B e 1 v t.length (Lib.byteCells t))
    (hs : P.underlying src = some (.slice e)) (he : P.underlying e = some (.int .u8)) (hd : P.underlying dst = some .string) : (convert src dst v).run P w = .ok (.string ⟨t.toArray⟩) w := by
  rcases ho.2 with ⟨rfl, h0⟩ | ⟨g, cap, cur, rfl, _, hg, _, _, _, htake⟩
  · obtain rfl := List.eq_nil_of_length_eq_zero h0
    rw [run_convert_bytes_string w src dst e _ 0 0 hs he hd]
    rfl
  · exact run_string_of_row w src dst e g t.length cap e cur t hg (by rw [← Nat.mul_one t.length]; exact htake) rfl hs he hd
theorem made_owned (w : World) (e : TypeId) (n : Nat) (hn : n ≤ maxLen) : (w.alloc (.cells (madeCells #[.int .u8 0] n) e)).ownsRow w.heap.size e 1 (.slice (some ⟨w.heap.size, 0, none⟩) 0 n) (joined []).length (Lib.byteCells (joined [])) :=
  ⟨rfl, .inr ⟨w.heap.size, n, madeCells #[.int .u8 0] n, rfl, Nat.le_refl _, heap_alloc_new w _, Nat.zero_le _, hn, by rw [size_madeCells, Nat.mul_one], rfl⟩⟩
theorem few_size {l : List ByteArray} {m : Nat} (h : few l m = true) {k : Nat} {s : ByteArray} (hs : l[k]? = some s) : s.size ≤ m := by
  rw [few, Bool.and_eq_true] at h
  exact of_decide_eq_true (List.all_eq_true.1 h.1 s (List.mem_of_getElem? hs))
set_option maxRecDepth 100000 in
set_option maxHeartbeats 1000000 in
theorem refjoined_big (a : Option Addr) (cap : Nat) (l : List ByteArray) (w : World) (hl : Strs w w.heap.size a l) (hf : few l 1000 = true) :
    Calls Tryd.prog 27 #[.slice a l.length cap] w fun e w' => e = .returned (.string ⟨(joined (lists l)).toArray⟩) ∧ Below w.heap.size w w' := by
  have h30 : l.length ≤ 30 := by
    rw [few, Bool.and_eq_true] at hf
    exact of_decide_eq_true hf.2
  have hfl := few_big hf
  have HF := Lib.hid hf
  clear hf
  obtain ⟨i0, hi, hz0, hz1, hz2⟩ := info_parts bt_info
  go_enter Tryd.func27, Tryd.ntmps27
  go_wp2
  go_loop [3, 4] (fun n i => ∃ (k c : Nat), k ≤ l.length ∧ i = .int .i64 k ∧ n = .int .i64 c ∧ c ≤ 1021 * k) (fun _ i => l.length - (intOf i).toNat)
  case atStart => exact ⟨0, 0, by omega, rfl, rfl, by omega⟩
  case round =>
    obtain ⟨k, c, hk, rfl, rfl, hc⟩ := hrel
    by_cases hlt : k < l.length
    · obtain ⟨b, off, rfl, _, hcell⟩ := hl (by omega)
      obtain ⟨s, hs⟩ : ∃ s, l[k]? = some s := ⟨_, List.getElem?_eq_getElem hlt⟩
      have c1 : w.cell? ⟨b, off + k, none⟩ = some (.string s) := hcell k s hs
      have h1000 := few_size HF.out hs
      have HS := Lib.hid hs
      have HC := Lib.hid hcell
      clear hs hcell
      go_wp2
      go_round
      case rel => exact ⟨k + 1, c + (s.size + 21), by omega, by go_num, by go_num, by omega⟩
      case measure => simp [intOf]; omega
    · have hmk := fun W : World => run_make (P := Tryd.prog) W 64 5 i0 (.int .u8 0) Tryd.underlying64 hi hz0 .i64 .i64 0 (c : Int) (by omega) (by omega) (by rw [hz2]; omega) (by omega)
      go_wp2_with fail
      clear hmk
      go_loopw [5, 6] (fun v i wr => ∃ k : Nat, k ≤ l.length ∧ i = .int .i64 k ∧ Hid (wr.ownsRow w.heap.size 5 1 v (joined (lists (l.take k))).length (Lib.byteCells (joined (lists (l.take k))))) ∧ Hid (Below w.heap.size w wr)) (fun _ i _ => l.length - (intOf i).toNat)
      case atStart => exact ⟨0, by omega, rfl, made_owned _ _ _ (by unfold maxLen; omega), (Below.refl _ _).alloc (Nat.le_refl _) _⟩
      case round =>
        clear hk hc hlt
        obtain ⟨k, hk, rfl, hown, hb⟩ := hrel
        by_cases hlt : k < l.length
        · obtain ⟨b, off, rfl, hbB, hcell⟩ := hl (by omega)
          obtain ⟨s, hs⟩ : ∃ s, l[k]? = some s := ⟨_, List.getElem?_eq_getElem hlt⟩
          have c1 : wr.cell? ⟨b, off + k, none⟩ = some (.string s) := (hb.out.cell (p := ⟨b, off + k, none⟩) hbB).trans (hcell k s hs)
          have hnext := joined_next hs
          have hle := joined_take_le l (k + 1)
          rw [hnext] at hle
          simp only [List.length_append, List.length_cons, List.length_nil, len_data] at hle
          have HS := Lib.hid hs
          have HN := Lib.hid hnext
          have HC := Lib.hid hcell
          clear hs hnext hcell
          go_wp2_with fail
          refine (decimal_any s.size _ (by omega)).mono ?_
          rintro e w' ⟨rfl, rfl⟩
          go_wp2_with (at_builtin; refine Lib.wpList_append_own_string _ rfl _ _ 64 9 rfl w.heap.size 5 i0 Tryd.underlying64 Tryd.underlying9 hi hz0 hz1 hz2 _ _ _ rfl hown.out ⟨(Lib.itoa s.size).toArray⟩ rfl ?d3 ?d4 ?d5 ?_)
          case d3 => rw [str_len]; unfold maxLen; omega
          case d4 => rw [str_len]; omega
          case d5 => exact hb.out.size
          intro v1 w1 hown1 hg1 _
          have B1 : Hid (Below w.heap.size w w1) := hb.out.grown hg1 hb.out.size (fun k hk => (hown.out.lt k hk).1)
          have O1 := Lib.hid hown1
          clear hown hown1 hb hg1 c1
          go_wp2_with (at_builtin; refine wpList_append_own _ rfl _ _ 64 rfl w.heap.size 5 i0 (.int .u8 0) 1 1 Tryd.underlying64 hi hz0 hz1 hz2 rfl (by decide) _ _ _ rfl (O1.out.alloc _) ⟨w1.heap.size, 0, none⟩ 1 1 [.int .u8 58] rfl rfl ?f1 ?f2 ?f3 ?f4 ?f5 ?_)
          case f1 =>
            intro j u hj
            match j, hj with
            | 0, hj => simp at hj; subst hj; simp [Addr.add]
          case f2 => intro u hu; simp at hu; subst hu; rfl
          case f3 => unfold maxLen; omega
          case f4 => omega
          case f5 => have := B1.out.size; simp; omega
          intro v2 w2 hown2 hg2 _
          have B2 : Hid (Below w.heap.size w w2) := (B1.out.alloc B1.out.size _).grown hg2 (by have := B1.out.size; simp; omega) (fun k hk => (O1.out.lt k hk).1)
          have O2 := Lib.hid hown2
          clear O1 hown2 B1 hg2
          have c2 : w2.cell? ⟨b, off + k, none⟩ = some (.string s) := (B2.out.cell (p := ⟨b, off + k, none⟩) hbB).trans (HC.out k s HS.out)
          go_wp2_with (at_builtin; refine Lib.wpList_append_own_string _ rfl _ _ 64 9 rfl w.heap.size 5 i0 Tryd.underlying64 Tryd.underlying9 hi hz0 hz1 hz2 _ _ _ rfl O2.out s rfl ?g3 ?g4 ?g5 ?_)
          case g3 => unfold maxLen; omega
          case g4 => omega
          case g5 => exact B2.out.size
          intro v3 w3 hown3 hg3 _
          have B3 : Hid (Below w.heap.size w w3) := B2.out.grown hg3 B2.out.size (fun k hk => (O2.out.lt k hk).1)
          have O3 : Hid (w3.ownsRow w.heap.size 5 1 v3 (joined (lists (l.take (k + 1)))).length (Lib.byteCells (joined (lists (l.take (k + 1)))))) := by
            show w3.ownsRow _ _ _ _ _ _
            rw [HN.out, Lib.byteCells_append, Lib.byteCells_append, Lib.byteCells_append]
            simp only [List.length_append, List.length_cons, List.length_nil, len_data, List.append_assoc, Nat.zero_add]
            rw [← Nat.add_assoc, ← Nat.add_assoc]
            exact hown3
          clear O2 hown3 B2 hg3 c2
          go_wp2
          go_roundw
          case rel => exact ⟨k + 1, by omega, by go_num, O3, B3⟩
          case measure => simp [intOf]; omega
        · obtain rfl : k = l.length := by omega
          rw [List.take_length] at hown
          have hconv := string_of_own (P := Tryd.prog) wr 64 9 5 _ _ _ hown.out Tryd.underlying64 Tryd.underlying5 Tryd.underlying9
          go_wp2
          go_ret
          exact ⟨rfl, hb.out⟩
theorem refjoined_any (a : Option Addr) (cap : Nat) (l : List ByteArray) (w : World) (hl : Strs w w.heap.size a l) (hf : few l 200 = true) :
    Calls Tryd.prog 27 #[.slice a l.length cap] w fun e w' => e = .returned (.string ⟨(joined (lists l)).toArray⟩) ∧ Below w.heap.size w w' :=
  refjoined_big a cap l w hl (few_more (by decide) hf)
end Go.Proofs.YtanlpcdljclnmaaDoor.Dg
