/- index: without, by induction. -/
import Derived.Test.YteghhfkllclghaaIxWithout1
namespace Go.Proofs.Yteghhfkllclghaa.Ix
open Go.RowKit Go.Sort
set_option maxRecDepth 100000 in
set_option maxHeartbeats 1000000 in
theorem out_leaf (b c : Bx) (p : Nat) (ids : List Id) (v : Value) (w : World) (ht : (Tr.leaf p c ids v).inT w) : Calls Try.prog 47 #[ptr p, vB b] w fun e w' => e = .returned nilP ∧ Below w.heap.size w w' := by
  obtain ⟨W, hW, hB, hR⟩ := box_row w 26 b
  have HW := Lib.hid hW
  have B0 := Lib.hid hB
  have T0 := Tr.inT_below ht hB
  obtain ⟨_, a4, _, _, _⟩ := node_facts T0.1
  clear hW hB hR T0
  unfold ptr vB
  unfold cB at HW
  go_enter Try.func47, Try.ntmps47
  go_upto_region 1 with fail
  rw [HW.out]
  go_wp2
  go_ret
  exact ⟨rfl, B0.out⟩
theorem out_any {b : Bx} (hb : validB b = true) : ∀ (t : Tr Value) (w : World), t.inT w → t.fp.Nodup → t.ok → Calls Try.prog 47 #[ptr t.blk, vB b] w (OutQ b t w)
  | .leaf p c ids v, w, ht, hn, ho => by
    refine (out_leaf b c p ids v w ht).mono ?_
    rintro e w' ⟨rfl, hb'⟩
    exact ⟨Ch.of_below hb', rfl⟩
  | .fork p f l r, w, ht, hn, ho => by
    obtain ⟨n1, n2, n3, n4, n5⟩ := fp_fork hn
    have h2 := dig_two b f
    by_cases e : dig b f = 0
    · refine (out_fork0 hb p f (hull l.box r.box) l r w ht.1 ht.2.1 ht.2.2 n1 n2 n5 ho.1 e fun w' h' => out_any hb l w' h' n3 ho.2.1).mono ?_
      rintro en w' ⟨hch, hm⟩
      have hc : Ch (· ∈ (Tr.fork p f l r).fp) w w' := hch.mono fun i h _ => by
        show i ∈ p :: (l.fp ++ r.fp)
        rcases h with rfl | h <;> simp [*]
      have hr : r.inT w' := Tr.inT_ch ht.2.2 hch fun k hk h => h.elim (fun e => n2 (e ▸ hk)) fun h => n5 k h hk
      have hdel : Tr.del b (Tr.fork p f l r) = match Tr.del b l with | none => some r | some l' => some (Tr.fork p f l' r) := by (conv => lhs; unfold Tr.del; rw [if_pos e]); cases Tr.del b l <;> rfl
      refine ⟨hc, ?_⟩
      rw [hdel]
      cases hd : Tr.del b l with
      | none =>
        rw [hd] at hm
        exact ⟨hm, hr, n4, fun k hk => by show k ∈ p :: (l.fp ++ r.fp); simp [hk]⟩
      | some l' =>
        rw [hd] at hm
        obtain ⟨rfl, h1, h2, h3, h4⟩ := hm
        rw [if_pos rfl] at h4
        refine ⟨rfl, ⟨h4, h1, hr⟩, ?_, fun k hk => ?_⟩
        · show (p :: (l'.fp ++ r.fp)).Nodup
          rw [List.nodup_cons, List.mem_append, not_or, List.nodup_append]
          exact ⟨⟨fun h => n1 (h3 p h), n2⟩, h2, n4, fun a ha c hc e => n5 a (h3 a ha) (e ▸ hc)⟩
        · show k ∈ p :: (l.fp ++ r.fp)
          rcases List.mem_cons.1 hk with rfl | hk
          · exact List.mem_cons_self ..
          · rcases List.mem_append.1 hk with hk | hk
            · simp [h3 k hk]
            · simp [hk]
    · have e1 : dig b f = 1 := by omega
      refine (out_fork1 hb p f (hull l.box r.box) r l w ht.1 ht.2.2 ht.2.1 n2 n1 (fun i hi hl => n5 i hl hi) ho.1 e1 fun w' h' => out_any hb r w' h' n4 ho.2.2.1).mono ?_
      rintro en w' ⟨hch, hm⟩
      have hc : Ch (· ∈ (Tr.fork p f l r).fp) w w' := hch.mono fun i h _ => by
        show i ∈ p :: (l.fp ++ r.fp)
        rcases h with rfl | h <;> simp [*]
      have hl : l.inT w' := Tr.inT_ch ht.2.1 hch fun k hk h => h.elim (fun e => n1 (e ▸ hk)) fun h => n5 k hk h
      have hdel : Tr.del b (Tr.fork p f l r) = match Tr.del b r with | none => some l | some r' => some (Tr.fork p f l r') := by (conv => lhs; unfold Tr.del; rw [if_neg e]); cases Tr.del b r <;> rfl
      refine ⟨hc, ?_⟩
      rw [hdel]
      cases hd : Tr.del b r with
      | none =>
        rw [hd] at hm
        exact ⟨hm, hl, n3, fun k hk => by show k ∈ p :: (l.fp ++ r.fp); simp [hk]⟩
      | some r' =>
        rw [hd] at hm
        obtain ⟨rfl, h1, h2, h3, h4⟩ := hm
        rw [if_neg (by decide)] at h4
        refine ⟨rfl, ⟨h4, hl, h1⟩, ?_, fun k hk => ?_⟩
        · show (p :: (l.fp ++ r'.fp)).Nodup
          rw [List.nodup_cons, List.mem_append, not_or, List.nodup_append]
          exact ⟨⟨n1, fun h => n2 (h3 p h)⟩, n3, h2, fun a ha c hc e => n5 a ha (e ▸ h3 c hc)⟩
        · show k ∈ p :: (l.fp ++ r.fp)
          rcases List.mem_cons.1 hk with rfl | hk
          · exact List.mem_cons_self ..
          · rcases List.mem_append.1 hk with hk | hk
            · simp [hk]
            · simp [h3 k hk]
end Go.Proofs.Yteghhfkllclghaa.Ix
