/- P2.4, SealBinds: its walk. -/
import Derived.Test.YtanlpcdljclnmaaDoorSlSecretsWalk
import Derived.Test.YtanlpcdljclnmaaDoorSlChecked
import Derived.Deep.RegionWith
namespace Go.Proofs.YtanlpcdljclnmaaDoor.Sl
open Go.RowKit
open Go.Proofs.YtanlpcdljclnmaaDoor.Dg hiding intOf

theorem checked_small (m : B) (i : Nat) {sig ps : List B} (hs : ∀ x ∈ sig, x.length ≤ 1000) (hp : ∀ x ∈ ps, x.length ≤ 1000) : ∀ x ∈ checked m i sig ps, x.length ≤ 100000 := by
  intro x hx
  unfold checked at hx
  rcases List.mem_append.1 hx with hx | hx
  · rcases List.mem_append.1 hx with hx | hx
    · unfold checkedSig at hx
      obtain ⟨k, _, hx⟩ := List.mem_flatMap.1 hx
      exact chainL_small (getD_small hs k) _ x hx
    · obtain rfl := List.mem_singleton.1 hx
      exact joined_small ⟨by rw [signEnds_len]; decide, ckEnds_small hs 18⟩
  · unfold checkedPath at hx
    obtain ⟨d, _, rfl⟩ := List.mem_map.1 hx
    have hv : (val (signer m sig) ps i d).length ≤ 1000 := val_small (dsum_small _ |> fun h => Nat.le_trans h (by decide)) d
    unfold upT
    split
    · exact nodeT_small (getD_small hp d) hv
    · exact nodeT_small hv (getD_small hp d)
theorem checked_of (m : B) (s : ByteArray) (i : Int) (idx : Nat) (a p : Option Addr) (ca np cp : Nat) (sig ps : List B) (w0 w : World) (hw : Below w0.heap.size w0 w) (hs : s = ⟨m.toArray⟩) (hi0 : i = (idx : Int)) (hm : m.length ≤ 300) (hl : Hid (Txt w0 w0.heap.size a sig)) (hp : Hid (Txt w0 w0.heap.size p ps)) (h18 : Hid (sig.length = 18)) (hnp : Hid (np = ps.length)) (h8 : np ≤ 2)
    (hi : Hid (idx < 1000000)) (hx : Hid (∀ x ∈ sig, x.length ≤ 1000)) (hy : Hid (∀ x ∈ ps, x.length ≤ 1000)) :
    Calls Tryd.prog 12 #[.string s, .agg #[.int .i64 i, .slice a 18 ca, .slice p np cp]] w fun e w' => ∃ g nn c, e = .returned (.slice (some ⟨g, 0, none⟩) nn c) ∧ 0 < nn ∧ nn ≤ 5000 ∧ Hid (Own w' w.heap.size (.slice (some ⟨g, 0, none⟩) nn c) nn (checked m idx sig ps)) ∧ Below w.heap.size w w' := by
  subst hs hi0
  refine (checked_any m idx a p ca np cp sig ps w (by omega) (hl.out.later hw) (hp.out.later hw) h18.out hnp.out (by omega) hi.out hx.out hy.out).mono ?_
  rintro e w' ⟨a, nn, c, rfl, hn, ho, hb⟩
  have h0 : 0 < nn := by rw [ho.1]; exact List.length_pos_of_mem (mem_checked_ends m idx sig ps)
  obtain ⟨g, c', hv⟩ := ho.pos h0
  rw [hv] at ho ⊢
  exact ⟨g, nn, c', rfl, h0, hn, ho, hb⟩
theorem step_appLG {w : World} {ops : Array Oper} {o : Oper} {a : Act} {Q : Exit → Act → World → Prop} {K : Act → World → Prop} {E : Prop} (hgd : Region.wanted o (yielded ops a.tmps) = true) (s x : Operand)
    (ho : o.op = .call { callee := .builtin .append, args := #[s, x], argTypes := #[27, 27] }) (base : Nat) (v : Value) (n : Nat) (L M : List B) (ad : Addr) (m c : Nat)
    (hs : a.eval s = v) (hown : Own w base v n L) (hx : a.eval x = .slice (some ad) m c) (htx : Txt w w.heap.size (some ad) M) (hm : m = M.length) (h0 : 0 < m) (hm1 : m ≤ 1000000) (hlen : n ≤ 1000000) (hbase : base ≤ w.heap.size)
    (h : ∀ g cap w', Own w' base (.slice (some ⟨g, 0, none⟩) (n + m) cap) (n + m) (L ++ M) → w.grownBy w' v.ownBlock → (∀ k, v.ownBlock = some k → base ≤ k ∧ k < w.heap.size) → (v.ownBlock = some g ∨ g = w.heap.size) → g < w'.heap.size →
      K (a.put o.dst (.slice (some ⟨g, 0, none⟩) (n + m) cap)) w') : if Region.wanted o (yielded ops a.tmps) = true then Oper.wp Tryd.prog o a w K Q else E := by
  obtain ⟨i0, hi, hz0, hz1, hz2⟩ := info_parts string_info
  rw [if_pos hgd]
  refine wp_append_lies (P := Tryd.prog) w s x _ ho base 9 i0 _ 1 16 Tryd.underlying27 hi hz0 hz1 hz2 rfl (by decide) v n (strv L) hs hown.2 ad m c (strv M) hx (by rw [strv_len, Nat.mul_one]; exact hm.symm) (news_txt htx) (strv_one M) h0 (by unfold maxLen; omega) (by omega) hbase w.heap.size rfl ?_
  intro g cap w1 h1 h2 h3 h4
  exact h g cap w1 ⟨by rw [hown.1, hm]; simp, by rw [strv_append]; exact h1⟩ h2 hown.lt h3 h4
theorem wp_appL {w : World} {o : Oper} {a : Act} {Q : Exit → Act → World → Prop} {K : Act → World → Prop} (s x : Operand)
    (ho : o.op = .call { callee := .builtin .append, args := #[s, x], argTypes := #[27, 27] }) (base : Nat) (v : Value) (n : Nat) (L M : List B) (ad : Addr) (m c : Nat)
    (hs : a.eval s = v) (hown : Own w base v n L) (hx : a.eval x = .slice (some ad) m c) (htx : Txt w w.heap.size (some ad) M) (hm : m = M.length) (h0 : 0 < m) (hm1 : m ≤ 1000000) (hlen : n ≤ 1000000) (hbase : base ≤ w.heap.size)
    (h : ∀ g cap w', Own w' base (.slice (some ⟨g, 0, none⟩) (n + m) cap) (n + m) (L ++ M) → w.grownBy w' v.ownBlock → (∀ k, v.ownBlock = some k → base ≤ k ∧ k < w.heap.size) → (v.ownBlock = some g ∨ g = w.heap.size) → g < w'.heap.size →
      K (a.put o.dst (.slice (some ⟨g, 0, none⟩) (n + m) cap)) w') : Oper.wp Tryd.prog o a w K Q := by
  obtain ⟨i0, hi, hz0, hz1, hz2⟩ := info_parts string_info
  refine wp_append_lies (P := Tryd.prog) w s x _ ho base 9 i0 _ 1 16 Tryd.underlying27 hi hz0 hz1 hz2 rfl (by decide) v n (strv L) hs hown.2 ad m c (strv M) hx (by rw [strv_len, Nat.mul_one]; exact hm.symm) (news_txt htx) (strv_one M) h0 (by unfold maxLen; omega) (by omega) hbase w.heap.size rfl ?_
  intro g cap w1 h1 h2 h3 h4
  exact h g cap w1 ⟨by rw [hown.1, hm]; simp, by rw [strv_append]; exact h1⟩ h2 hown.lt h3 h4
end Go.Proofs.YtanlpcdljclnmaaDoor.Sl
