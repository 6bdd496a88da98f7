/- tag: keys: the keys of several lists of tags, each once, in order. -/
import Derived.Test.YtlknbjaippfemaaTgFew
import Derived.Test.YtlknbjaippfemaaTgMath2
import Derived.Test.YtlknbjaippfemaaTgShelf
import Derived.Maps.OwnSet
import Derived.Shelf.SlIter.Nil
import Derived.Shelf.SortM.Plain
import Derived.Shelf.SortM.SortNone
namespace Go.Proofs.Ytlknbjaippfemaa.Tg
open Go.RowKit Go.Maps Go.Sort
open Lx (IsRow name_any alloc1)
/-- an element of the map is held as it is. -/
def heldE (v : Value) : Option (DataW Value × List MemPlace) := some (.held v, [])
theorem str_keyed : Keyed Try.prog 9 := Maps.string_keyed Try.underlying9
theorem keyOf_str' {i : B} (h : i.length ≤ 100000) : keyOf Try.prog 9 (.string ⟨i.toArray⟩) = some (.string i) := by
  unfold keyOf
  rw [Try.underlying9]
  show mapKey Try.prog 9 (.string ⟨i.toArray⟩) = _
  unfold mapKey
  rw [Try.underlying9]
  have : (ByteArray.mk i.toArray).size ≤ maxLen := by
    show i.toArray.size ≤ maxLen
    unfold maxLen
    simp
    omega
  simp [this]
theorem key_lit (i : B) : WideAt.IsKeyLit (.string i) := by first | trivial | exact Or.inl ⟨i, rfl⟩ | simp [WideAt.IsKeyLit]
theorem has_put {D : DataW Value} (h : IsMap D) (k x : B) (d : DataW Value) : has (D.put (.string k) d) (.string x) = true ↔ x = k ∨ has D (.string x) = true := by
  by_cases e : x = k
  · subst e
    rw [Maps.has_put_same h (key_lit x) _]
    simp
  · rw [Maps.has_put_other (fun g => e (by injection g))]
    simp [e]
theorem sorts_any (m : Nat) : AnyZ.SortsIn Try.prog Try.sorted49_ren Fence.wide m :=
  ⟨fun blk off cap ss W hH hblk hsz => callsIn_wide.2 (AnyM.slices_Sort_string Try.sort59 blk off cap ss W hH hblk hsz),
   fun p cap W => callsIn_wide.2 (AnyM.slices_Sort_string_none Try.sort59 p cap W)⟩
theorem mapKeys_any (mb : Option Nat) (W : World) : Calls Try.prog 50 #[.map mb] W fun e w' => e = .returned (.func (.func 60) #[] #[.pointer (some ⟨W.heap.size, 0, none⟩)]) ∧ w' = W.alloc (.cells #[.map mb] 82) :=
  (callsIn_wide (n := 5)).1 (AnyZ.keys_in Try.keys50 Fence.wide 5 trivial rfl mb W)
set_option maxHeartbeats 1000000 in
theorem sorted_any {H : Type} (b nn : Nat) (D0 : DataW H) (R : Value → Option (DataW H × List MemPlace)) (w : World) (hown : w.ownsMap Try.prog 9 R b nn D0) (hmax : Maps.size D0 ≤ maxLen) (hbytes : Maps.size D0 * 16 ≤ 140737488355328) :
    Calls Try.prog 49 #[.func (.func 60) #[] #[.pointer (some ⟨w.heap.size, 0, none⟩)]] (w.alloc (.cells #[.map (some b)] 82)) fun e w' => ∃ (v : Value) (ss : List (List UInt8)), e = .returned v ∧ ss.Perm (strKeys D0) ∧
      w'.ownsRow (w.alloc (.cells #[.map (some b)] 82)).heap.size 9 1 v ss.length ((ss.mergeSort (fun x y => decide (x ≤ y))).map encStr) ∧ (v = .slice none 0 0 ↔ ss = []) ∧ Below (w.alloc (.cells #[.map (some b)] 82)).heap.size (w.alloc (.cells #[.map (some b)] 82)) w' := by
  refine (callsIn_wide (n := 5)).1 ?_
  have hbl := hown.lt
  have hseq : SeqGives Fence.wide 2 Try.prog 60 #[.pointer (some ⟨w.heap.size, 0, none⟩)] encStr (fun ss => ss.Perm (strKeys D0)) (Maps.size D0) (w.alloc (.cells #[.map (some b)] 82)) :=
    AnyZ.keys_gives (ρ := Try.keys50_ren) { Try.keys50 with } Fence.wide _ trivial rfl (by omega) w.heap.size b nn D0 _ (by simp) (by simp) (by
      obtain ⟨es, clock, hb, Ft, hs, hD⟩ := hown
      exact ⟨es, clock, (Below.heap_alloc _ _ b hbl).trans hb, Ft, hs, hD⟩)
  exact AnyZ.sorted_in Try.sorted49 Fence.wide 5 trivial trivial trivial trivial rfl (by omega) (sorts_any _) (enters_of Try.func59 (by kernel_rfl) rfl) 60 #[.pointer (some ⟨w.heap.size, 0, none⟩)] trivial (enters_of Try.func60 (by kernel_rfl) rfl) _ _ hmax hbytes _ hseq
/-- what the map holds. -/
def KeyD (D : DataW Value) (K : B → Prop) : Prop := ∀ x, has D (.string x) = true ↔ K x
theorem own_strs {w : World} {base n : Nat} {v : Value} {l : List B} (h : w.ownsRow base 9 1 v n (l.map encStr)) (hn : n = l.length) : ∃ ao cap, v = .slice ao l.length cap ∧ l.length ≤ cap ∧ StrT w w.heap.size ao l := by
  subst hn
  obtain ⟨_, ⟨hv, h1⟩ | ⟨g, cap, cur, hv, hb, hg, h1, h2, h3, h4⟩⟩ := h
  · exact ⟨none, 0, by rw [hv, h1], by omega, fun hp => by omega⟩
  · subst hv
    have hr : IsRow w g 9 cur := hg
    refine ⟨some ⟨g, 0, none⟩, cap, rfl, h1, fun _ => ⟨g, 0, rfl, hr.inside, fun k y hk => ?_⟩⟩
    have hkl := (List.getElem?_eq_some_iff.1 hk).1
    have e : (l.map encStr)[k]? = some (.string ⟨y.toArray⟩) := by rw [List.getElem?_map, hk]; rfl
    rw [← h4, List.getElem?_take, if_pos (by omega)] at e
    rw [hr.get, Nat.zero_add]
    simpa using e
theorem grown_below {w w' : World} {b B : Nat} (h : w.grownBy w' (some b)) (hB : B ≤ b) (hw : B ≤ w.heap.size) : Below B w w' := Lx.below_grown h hB hw
set_option maxRecDepth 100000 in
set_option maxHeartbeats 4000000 in
theorem keys_any (g m : Nat) (ls : List (Option Addr × Nat × Nat × List T)) (w : World) (h : Sls w g ls) (hm : ls.length = m) (hm3 : m ≤ 10) (hL : ∀ s ∈ ls, s.2.1 ≤ 1000 ∧ Siz s.2.2.2) :
    Calls Try.prog 28 #[.slice (some ⟨g, 0, none⟩) m m] w fun e w' => (∃ ao cap, e = .returned (.slice ao (keysR (ls.map fun s => s.2.2.2)).length cap) ∧ (keysR (ls.map fun s => s.2.2.2)).length ≤ cap ∧ StrT w' w'.heap.size ao (keysR (ls.map fun s => s.2.2.2))) ∧ Below w.heap.size w w' := by
  have H := Lib.hid h
  have HM := Lib.hid hm
  have HL := Lib.hid hL
  have hm' : (m : Int) ≤ 10 := by omega
  have M10 := Lib.hid hm3
  have hmk := @run_makeMap Try.prog
  clear h hm hL hm3
  go_enter Try.func28, Try.ntmps28
  go_wp2_with fail
  obtain ⟨b, hb⟩ : ∃ b, w.heap.size = b := ⟨_, rfl⟩
  have M0 := Lib.hid (show (w.alloc (.map #[] 0)).ownsMap Try.prog 9 heldE b 0 (.map []) from hb ▸ World.ownsMap_made w Try.prog 9 heldE)
  have B0 := Lib.hid (show Below b w (w.alloc (.map #[] 0)) from hb ▸ alloc1 w _)
  have HS := Lib.hid (show ∀ s ∈ ls, TagsT w b s.1 s.2.2.2 from fun s hs => hb ▸ (H.out.2 s hs).2.1)
  have HG := Lib.hid (show g < b from hb ▸ H.out.1.inside)
  rw [hb]
  have HB := Lib.hid hb
  clear hb hmk
  go_loopw [11] (fun i wr => ∃ k : Nat, k ≤ m ∧ i = .int .i64 k ∧ Hid (∃ D, wr.ownsMap Try.prog 9 heldE b (k * 1000) D ∧ KeyD D (fun x => ∃ s ∈ ls.take k, ∃ t ∈ s.2.2.2, t.1 = x)) ∧ Hid (Below b w wr)) (fun i _ => m - (Lx.intOf i).toNat)
  case atStart => exact ⟨0, by omega, rfl, Lib.hid ⟨_, M0.out, show KeyD (.map []) _ from fun x => Iff.intro (fun h => by simp [Maps.has] at h) (fun h => by obtain ⟨s, hs, _⟩ := h; simp at hs)⟩, B0⟩
  case round =>
    clear M0 B0
    obtain ⟨k, hk, rfl, HD, HK⟩ := hrel
    by_cases hlt : k < m
    · have hkl : k < ls.length := by rw [HM.out]; exact hlt
      have hlt2 : (k : Int) < (m : Int) := by omega
      have x0 := (H.out.1.below HK.out HG.out).get k
      rw [show (ls.map fun s => Value.slice s.1 s.2.1 s.2.2.1).toArray[k]? = some (Value.slice ls[k].1 ls[k].2.1 ls[k].2.2.1) by simp [hkl]] at x0
      have q1 := (H.out.2 _ (List.getElem_mem hkl)).1
      have q3 := (H.out.2 _ (List.getElem_mem hkl)).2.2
      have q2 := HS.out _ (List.getElem_mem hkl)
      have q4 := HL.out _ (List.getElem_mem hkl)
      have TK := Lib.hid (show ls.take (k + 1) = ls.take k ++ [ls[k]] from List.take_succ_eq_append_getElem hkl)
      generalize ls[k] = s at *
      obtain ⟨a1, n1, c1, l1⟩ := s
      dsimp only at x0 q1 q2 q3 q4
      have Q1 := Lib.hid q1
      have Q2 := Lib.hid q2
      have Q4 := Lib.hid q4
      have hq3 : (n1 : Int) ≤ (c1 : Int) := by omega
      have hq4 : (n1 : Int) ≤ 1000 := by have := q4.1; omega
      clear q1 q2 q3 q4 hkl
      go_upto_region 5 with fail
      go_wp2_with fail
      obtain ⟨v0, hv0⟩ : ∃ v, v = wr := ⟨_, rfl⟩
      subst hv0
      clear x0
      go_loopw [17] (fun i wr => ∃ j : Nat, j ≤ n1 ∧ i = .int .i64 j ∧ Hid (∃ D, wr.ownsMap Try.prog 9 heldE b (k * 1000 + j) D ∧ KeyD D (fun x => (∃ s ∈ ls.take k, ∃ t ∈ s.2.2.2, t.1 = x) ∨ ∃ t ∈ l1.take j, t.1 = x)) ∧ Hid (Below b w wr)) (fun i _ => n1 - (Lx.intOf i).toNat)
      case atStart =>
        obtain ⟨D, h1, h2⟩ := HD.out
        exact ⟨0, by omega, rfl, Lib.hid ⟨D, h1, fun x => (h2 x).trans ⟨.inl, fun h => h.elim id fun ⟨t, ht, _⟩ => by simp at ht⟩⟩, HK⟩
      case round =>
        clear HD HK
        obtain ⟨j, hj, rfl, HD, HK⟩ := hrel
        by_cases hlj : j < n1
        · have hjl : j < l1.length := by rw [Q1.out]; exact hlj
          have hlj2 : (j : Int) < (n1 : Int) := by omega
          obtain ⟨g1, o1, rfl, hg1, x0, x1⟩ := (Q2.out.below HK.out (Nat.le_refl _)).at_ hjl
          have hsz := Lib.hid (Q4.out.2 _ (List.getElem_mem hjl))
          have TJ := Lib.hid (show ∀ x, (∃ t ∈ l1.take (j + 1), t.1 = x) ↔ x = l1[j].1 ∨ ∃ t ∈ l1.take j, t.1 = x from fun x => by
            rw [List.take_succ_eq_append_getElem hjl]
            constructor
            · rintro ⟨t, ht, e⟩
              rcases List.mem_append.1 ht with ht | ht
              · exact .inr ⟨t, ht, e⟩
              · rw [List.mem_singleton] at ht
                subst ht
                exact .inl e.symm
            · rintro (e | ⟨t, ht, e⟩)
              · exact ⟨l1[j], List.mem_append_right _ (List.mem_singleton.2 rfl), e.symm⟩
              · exact ⟨t, List.mem_append_left _ ht, e⟩)
          generalize l1[j].1 = ky at *
          generalize l1[j].2 = val at *
          clear hjl
          obtain ⟨w2, e2, b2, r2⟩ := tag_made wr (.string ⟨ky.toArray⟩) (.string ⟨val.toArray⟩)
          have HE := Lib.hid e2
          obtain ⟨D, hD, hKD⟩ := HD.out
          have hD2 : w2.ownsMap Try.prog 9 heldE b (k * 1000 + j) D := e2 ▸ hD.alloc _
          obtain ⟨w3, hrun, hD3, hg3⟩ := World.ownsMap.update hD2 str_keyed Try.underlying82 (by unfold maxLen; have := M10.out; omega) (keyOf_str' hsz.out.1) (show heldE (.bool true) = some (.held (.bool true), []) from rfl)
          have M3 := Lib.hid (show ∃ D, w3.ownsMap Try.prog 9 heldE b (k * 1000 + (j + 1)) D ∧ KeyD D (fun x => (∃ s ∈ ls.take k, ∃ t ∈ s.2.2.2, t.1 = x) ∨ ∃ t ∈ l1.take (j + 1), t.1 = x) from ⟨_, hD3, fun x => by
            rw [has_put hD2.isMap, hKD x]
            dsimp only
            rw [TJ.out x]
            constructor
            · rintro (h | h | h)
              · exact .inr (.inl h)
              · exact .inl h
              · exact .inr (.inr h)
            · rintro (h | h | h)
              · exact .inr (.inl h)
              · exact .inl h
              · exact .inr (.inr h)⟩)
          have hbl : b ≤ wr.heap.size := Nat.le_of_lt hD.lt
          have K3 := Lib.hid (HK.out.trans ((b2.mono hbl).trans (grown_below hg3 (Nat.le_refl _) (Nat.le_trans hbl b2.size))))
          obtain ⟨y0, y1, _, _⟩ := facts2 r2
          clear e2 b2 r2 hD hKD hD2 hD3 hg3 hbl HD hsz TJ
          go_upto_region 8 with fail
          rw [HE.out]
          go_wp2
          go_roundw
          case rel => exact ⟨j + 1, by omega, by go_num, M3, K3⟩
          case measure => simp [Lx.intOf]; omega
        · obtain rfl : n1 = j := by omega
          have M3 := Lib.hid (show ∃ D, wr.ownsMap Try.prog 9 heldE b ((k + 1) * 1000) D ∧ KeyD D (fun x => ∃ s ∈ ls.take (k + 1), ∃ t ∈ s.2.2.2, t.1 = x) from by
            obtain ⟨D, h1, h2⟩ := HD.out
            refine ⟨D, h1.mono (by have := Q4.out.1; omega), fun x => (h2 x).trans ?_⟩
            rw [TK.out, ← Q1.out, List.take_length]
            constructor
            · rintro (⟨s, hs, h⟩ | ⟨t, ht, e⟩)
              · exact ⟨s, List.mem_append_left _ hs, h⟩
              · exact ⟨_, List.mem_append_right _ (List.mem_singleton.2 rfl), t, ht, e⟩
            · rintro ⟨s, hs, t, ht, e⟩
              rcases List.mem_append.1 hs with hs | hs
              · exact .inl ⟨s, hs, t, ht, e⟩
              · rw [List.mem_singleton] at hs
                subst hs
                exact .inr ⟨t, ht, e⟩)
          clear HD
          go_wp2
          go_roundw
          case rel => exact ⟨k + 1, by omega, by go_num, M3, HK⟩
          case measure => simp [Lx.intOf]; omega
    · obtain rfl : m = k := by omega
      obtain ⟨D, h1, h2⟩ := HD.out
      have KD := Lib.hid (show ∀ x, has D (.string x) = true ↔ x ∈ keysR (ls.map fun s => s.2.2.2) from fun x => by
        rw [h2 x, ← HM.out, List.take_length, keys_mem]
        constructor
        · rintro ⟨s, hs, t, ht, e⟩
          exact ⟨_, List.mem_map.2 ⟨s, hs, rfl⟩, t, ht, e⟩
        · rintro ⟨l, hl, t, ht, e⟩
          obtain ⟨s, hs, rfl⟩ := List.mem_map.1 hl
          exact ⟨s, hs, t, ht, e⟩)
      have hsz := h1.size_le
      have KS := Lib.hid (sorted_any b _ D heldE wr h1 (by unfold maxLen; have := M10.out; omega) (by have := M10.out; omega))
      have KK := Lib.hid (mapKeys_any (some b) wr)
      have PM := Lib.hid (show (keysR (ls.map fun s => s.2.2.2)).Perm (strKeys D) from Collected.perm (left := fun _ => false) ⟨inc_nodup (sortK_inc _), fun x => by rw [KD.out x]; simp⟩ h1 str_keyed Try.underlying9 fun _ => rfl)
      have hbl := Lib.hid (show b ≤ wr.heap.size from Nat.le_of_lt h1.lt)
      have INC := Lib.hid (show (keysR (ls.map fun s => s.2.2.2)).Pairwise (· < ·) from sortK_inc _)
      obtain ⟨L, hL⟩ : ∃ L, keysR (ls.map fun s => s.2.2.2) = L := ⟨_, rfl⟩
      rw [hL] at PM INC
      have HLL := Lib.hid hL
      clear h1 h2 hsz HD hL KD
      go_wp2_with (first
        | ((with_reducible refine KK.out.mono ?_); rintro e w' ⟨rfl, rfl⟩)
        | ((with_reducible refine KS.out.mono ?_); rintro e w' ⟨v, ss, rfl, hS, hrow, hnil, hbx⟩))
      have e1 := inc_sort (hS.trans PM.out.symm) INC.out
      rw [e1] at hrow
      obtain ⟨ao, cap, rfl, hc, ht⟩ := own_strs hrow (by rw [← e1, List.length_mergeSort])
      have BX := Lib.hid (HK.out.trans (((alloc1 wr _).mono hbl.out).trans (hbx.mono (Nat.le_trans hbl.out (alloc1 wr _).size))))
      go_ret
      rw [HLL.out]
      exact ⟨⟨ao, cap, rfl, hc, ht⟩, HB.out ▸ BX.out⟩
end Go.Proofs.Ytlknbjaippfemaa.Tg
