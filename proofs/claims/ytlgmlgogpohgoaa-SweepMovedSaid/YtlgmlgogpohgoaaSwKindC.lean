/- The reference's Kind. -/
import Derived.Test.YtlgmlgogpohgoaaSwPairsWalk
namespace Go.Proofs.Ytlgmlgogpohgoaa.Sw
open Go.RowKit Go.Sort Go.Shelf
open Go.Proofs.Ytlgmlgogpohgoaa.Geo hiding intOf
theorem find_none_next {L : List Met} {a b k : Nat} {m : Met} (h : (L.take k).find? (isPair a b) = none) (hm : L[k]? = some m) (hp : isPair a b m = false) : (L.take (k + 1)).find? (isPair a b) = none := by
  obtain ⟨h1, rfl⟩ := List.getElem?_eq_some_iff.1 hm
  rw [List.take_succ_eq_append_getElem h1, List.find?_append, h]
  simp [hp]
theorem find_some_here {L : List Met} {a b k : Nat} {m : Met} (h : (L.take k).find? (isPair a b) = none) (hm : L[k]? = some m) (hp : isPair a b m = true) : findN L a b = m.k := by
  obtain ⟨h1, rfl⟩ := List.getElem?_eq_some_iff.1 hm
  have e : L = L.take k ++ L[k] :: L.drop (k + 1) := by rw [List.getElem_cons_drop, List.take_append_drop]
  have h2 : (L.take k ++ L[k] :: L.drop (k + 1)).find? (isPair a b) = some L[k] := by
    rw [List.find?_append, h, List.find?_cons, hp]
    simp
  rw [← e] at h2
  unfold findN
  rw [h2]
theorem find_all_none {L : List Met} {a b : Nat} (h : (L.take L.length).find? (isPair a b) = none) : findN L a b = 0 := by
  rw [List.take_length] at h
  unfold findN
  rw [h]
set_option maxRecDepth 100000 in
set_option maxHeartbeats 4000000 in
theorem kind_any (base : Nat) (v : Value) (L : List Met) (a b : Nat) (w : World) (h : OwnM w base v L) (hn : L.length ≤ 1000000000) :
    Calls Try.prog 32 #[v, .int .i64 a, .int .i64 b] w fun e w' => e = .returned (.int .i64 (findN L a b)) ∧ Below w.heap.size w w' := by
  obtain ⟨a1, c1, rfl, k1⟩ := mets_at h
  have K1 := Lib.hid k1
  obtain ⟨x, hx⟩ : ∃ x, min a b = x := ⟨_, rfl⟩
  obtain ⟨y, hy⟩ : ∃ y, max a b = y := ⟨_, rfl⟩
  have hmin : ∀ ts t w, (Builtin.min_ ts t #[.int .i64 (a : Int), .int .i64 (b : Int)]).run Try.prog w = .ok (.int .i64 (x : Int)) w := fun ts t w => by rw [run_min2]; congr 2; omega
  have hmax : ∀ ts t w, (Builtin.max_ ts t #[.int .i64 (a : Int), .int .i64 (b : Int)]).run Try.prog w = .ok (.int .i64 (y : Int)) w := fun ts t w => by rw [run_max2]; congr 2; omega
  have HX := Lib.hid hx
  have HY := Lib.hid hy
  clear h k1 hx hy
  go_enter Try.func32, Try.ntmps32
  go_wp2
  go_loopw [7] (fun i wr => ∃ k : Nat, k ≤ L.length ∧ i = .int .i64 k ∧ Hid ((L.take k).find? (isPair a b) = none) ∧ Hid (Below w.heap.size w wr)) (fun i _ => L.length - (intOf i).toNat)
  case atStart => exact ⟨0, by omega, rfl, Lib.hid (by simp), Lib.hid (Below.refl _ _)⟩
  case round =>
    obtain ⟨k, hk, rfl, hf, hb⟩ := hrel
    by_cases hlt : k < L.length
    · obtain ⟨m, hm⟩ : ∃ m, L[k]? = some m := ⟨_, List.getElem?_eq_getElem hlt⟩
      obtain ⟨g, rfl, hg, x0, x1, x2⟩ := K1.out k m hm
      have p0 := (hb.out.cell (p := ⟨g, k * 3, none⟩) hg).trans x0
      have p1 := (hb.out.cell (p := ⟨g, k * 3 + 1, none⟩) hg).trans x1
      have p2 := (hb.out.cell (p := ⟨g, k * 3 + 2, none⟩) hg).trans x2
      have HM := Lib.hid hm
      clear x0 x1 x2 hm
      by_cases h1 : m.a = x
      · by_cases h2 : m.b = y
        · have z1 : ((m.a : Int) == (x : Int)) = true := by simp [h1]
          have z2 : ((m.b : Int) == (y : Int)) = true := by simp [h2]
          have HE := Lib.hid (find_some_here hf.out HM.out (show isPair a b m = true by unfold isPair; rw [HX.out, HY.out, decide_eq_true h1, decide_eq_true h2]; rfl))
          clear h1 h2
          go_wp2
          go_ret
          exact ⟨ret_int HE.out.symm, hb.out⟩
        · have z1 : ((m.a : Int) == (x : Int)) = true := by simp [h1]
          have z2 : ((m.b : Int) == (y : Int)) = false := by simp; omega
          have HE := Lib.hid (find_none_next hf.out HM.out (show isPair a b m = false by unfold isPair; rw [HY.out, decide_eq_false h2]; simp))
          clear h1 h2
          go_wp2
          go_roundw
          case rel => exact ⟨k + 1, by omega, by go_num, HE, hb⟩
          case measure => simp [intOf]; omega
      · have z1 : ((m.a : Int) == (x : Int)) = false := by simp; omega
        have HE := Lib.hid (find_none_next hf.out HM.out (show isPair a b m = false by unfold isPair; rw [HX.out, decide_eq_false h1]; rfl))
        clear h1
        go_wp2
        go_roundw
        case rel => exact ⟨k + 1, by omega, by go_num, HE, hb⟩
        case measure => simp [intOf]; omega
    · obtain rfl : k = L.length := by omega
      have HE := Lib.hid (find_all_none hf.out)
      go_wp2
      go_ret
      exact ⟨ret_int HE.out.symm, hb.out⟩
end Go.Proofs.Ytlgmlgogpohgoaa.Sw
