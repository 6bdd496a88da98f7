/- lexer: the laws' head; slices of tokens as they are read. -/
import Derived.Test.YtlknbjaippfemaaLxName
namespace Go.Proofs.Ytlknbjaippfemaa.Lx
open Go.RowKit
/-- a slice of tokens in memory below B. -/
def Toks (w : World) (B : Nat) (ao : Option Addr) (l : List Tk) : Prop := 0 < l.length → ∃ g off, ao = some ⟨g, off, none⟩ ∧ g < B ∧ ∀ (k : Nat) (t : Tk), l[k]? = some t →
  w.cell? ⟨g, off + k * 3, none⟩ = some (.int .i64 t.k) ∧ w.cell? ⟨g, off + k * 3 + 1, none⟩ = some (.string ⟨t.t.toArray⟩) ∧ w.cell? ⟨g, off + k * 3 + 2, none⟩ = some (.int .i64 (t.a : Int))
theorem Toks.below {w w' : World} {B B' : Nat} {ao : Option Addr} {l : List Tk} (h : Toks w B ao l) (hb : Below B' w w') (hB : B ≤ B') : Toks w' B ao l := fun h0 => by
  obtain ⟨g, off, e, hg, hc⟩ := h h0
  exact ⟨g, off, e, hg, fun k t hk => by
    obtain ⟨c0, c1, c2⟩ := hc k t hk
    exact ⟨(hb.cell (p := ⟨g, _, none⟩) (Nat.lt_of_lt_of_le hg hB)).trans c0, (hb.cell (p := ⟨g, _, none⟩) (Nat.lt_of_lt_of_le hg hB)).trans c1, (hb.cell (p := ⟨g, _, none⟩) (Nat.lt_of_lt_of_le hg hB)).trans c2⟩⟩
theorem Toks.more {w : World} {B B' : Nat} {ao : Option Addr} {l : List Tk} (h : Toks w B ao l) (hB : B ≤ B') : Toks w B' ao l := fun h0 => by
  obtain ⟨g, off, e, hg, hc⟩ := h h0
  exact ⟨g, off, e, Nat.lt_of_lt_of_le hg hB, hc⟩
theorem flatK_len (l : List Tk) : (flatK l).length = l.length * 3 := by
  induction l with
  | nil => rfl
  | cons t l ih => unfold flatK at ih ⊢; rw [List.flatMap_cons, List.length_append, ih]; simp [encK]; omega
theorem flatK_get : ∀ (l : List Tk) (k : Nat) (t : Tk), l[k]? = some t → (flatK l)[k * 3]? = some (.int .i64 t.k) ∧ (flatK l)[k * 3 + 1]? = some (.string ⟨t.t.toArray⟩) ∧ (flatK l)[k * 3 + 2]? = some (.int .i64 (t.a : Int))
  | [], k, t, h => by simp at h
  | x :: l, 0, t, h => by
    rw [List.getElem?_cons_zero] at h
    injection h with h
    subst h
    exact ⟨rfl, rfl, rfl⟩
  | x :: l, k + 1, t, h => by
    rw [List.getElem?_cons_succ] at h
    have ih := flatK_get l k t h
    have e : ∀ j, (flatK (x :: l))[(k + 1) * 3 + j]? = (flatK l)[k * 3 + j]? := fun j => by
      unfold flatK
      rw [List.flatMap_cons, List.getElem?_append_right (by simp [encK]; omega)]
      congr 1
      simp [encK]; omega
    exact ⟨(e 0).trans ih.1, (e 1).trans ih.2.1, (e 2).trans ih.2.2⟩
theorem OwnK.toks {w : World} {base : Nat} {v : Value} {l : List Tk} (h : OwnK w base v l) : ∃ ao cap, v = .slice ao l.length cap ∧ l.length ≤ cap ∧ Toks w w.heap.size ao l := by
  obtain ⟨h1, h2⟩ := h
  rcases h2 with ⟨rfl, h0⟩ | ⟨g, cap, cur, rfl, hb, hg, _, hc, _, ht⟩
  · exact ⟨none, 0, by rw [h0], by omega, fun hp => by omega⟩
  · have hr : IsRow w g 75 cur := hg
    refine ⟨some ⟨g, 0, none⟩, cap, rfl, by omega, fun _ => ⟨g, 0, rfl, hr.inside, fun k t hk => ?_⟩⟩
    obtain ⟨f0, f1, f2⟩ := flatK_get l k t hk
    have hkl := (List.getElem?_eq_some_iff.1 hk).1
    rw [← ht, List.getElem?_take, if_pos (by omega)] at f0
    rw [← ht, List.getElem?_take, if_pos (by omega)] at f1
    rw [← ht, List.getElem?_take, if_pos (by omega)] at f2
    rw [hr.get, hr.get, hr.get, Nat.zero_add]
    exact ⟨by simpa using f0, by simpa using f1, by simpa using f2⟩
theorem lex_of (s : ByteArray) (w : World) (ts : List Tk) (e a : Int) (h : lexR s.data.toList = (ts, e, a)) :
    Calls Try.prog 38 #[.string s] w fun x w' => (∃ ao cap, x = .returned (.tuple #[.slice ao ts.length cap, .int .i64 e, .int .i64 a]) ∧ ts.length ≤ cap ∧ Toks w' w'.heap.size ao ts) ∧ Below w.heap.size w w' := by
  refine (lex_any s w).mono ?_
  rintro x w' ⟨⟨v, rfl, ho⟩, hb⟩
  rw [h] at ho ⊢
  obtain ⟨ao, cap, rfl, hc, ht⟩ := ho.toks
  exact ⟨⟨ao, cap, rfl, hc, ht⟩, hb⟩
theorem lex1 : lexR [119, 97, 121, 32, 119, 49, 32, 55, 45, 34, 97, 92, 34, 98, 34, 35, 32, 121] = ([⟨1, [119, 97, 121], 0⟩, ⟨1, [119, 49], 4⟩, ⟨2, [55], 7⟩, ⟨4, [45], 8⟩, ⟨3, [97, 34, 98], 9⟩], 0, 0) := by decide +kernel
theorem lex2 : lexR [97, 32, 33, 98] = ([], 3, 2) := by decide +kernel
theorem lex3 : lexR [55, 120] = ([], 4, 0) := by decide +kernel
theorem lex4 : lexR [97, 32, 34, 98] = ([], 3, 2) := by decide +kernel
theorem lex5 : lexR [10, 97, 98, 99, 100, 101, 102, 103, 104, 105, 106, 107, 108, 109, 110, 111, 112, 113, 114, 115, 116, 117, 118, 119, 120, 121] = ([], 2, 1) := by decide +kernel
theorem nm_lit (l : B) (b : Bool) (h : nmB l = b) (hl : l.length ≤ 100) (w : World) : Calls Try.prog 23 #[.string ⟨l.toArray⟩] w fun e w' => e = .returned (.bool b) ∧ w = w' := by
  have := name_any ⟨l.toArray⟩ w (by rw [str_size]; omega)
  rw [str_eq, h] at this
  exact this
end Go.Proofs.Ytlknbjaippfemaa.Lx
