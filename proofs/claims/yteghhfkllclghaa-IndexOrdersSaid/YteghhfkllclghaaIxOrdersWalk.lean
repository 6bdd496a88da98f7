/- index: IndexOrders. -/
import Derived.Test.YteghhfkllclghaaIxNearestWalk
import Derived.Test.YteghhfkllclghaaIxZone
import Derived.StillTailTactics
namespace Go.Proofs.Yteghhfkllclghaa.Ix
open Go.RowKit Go.Sort
def pre : Id := List.replicate 101 43
theorem pre_len (i : Id) : (pre ++ i).length = 101 + i.length := by unfold pre; rw [List.length_append, List.length_replicate]
theorem pre_inj {i j : Id} : pre ++ i = pre ++ j ↔ i = j := ⟨fun h => List.append_cancel_left h, fun h => by rw [h]⟩
/-- in phase one all Ids begin with the long word. -/
def Ord1 (l : List Opn) (T : List It) : Prop := ∀ z ∈ T, ∃ o ∈ l, z.1 = pre ++ o.id
def Ord2 (P S : List It) (l : List Opn) (k : Nat) (T : List It) : Prop := ∀ z, z ∈ T ↔ z ∈ P ∨ (z ∈ S ∧ ∃ o ∈ l.drop k, o.id = z.1)
def Ord3 (P S : List It) (l : List Opn) (k : Nat) (T : List It) : Prop := ∀ z, z ∈ T ↔ (z ∈ P ∧ ∀ o ∈ l.take k, z.1 ≠ pre ++ o.id) ∨ z ∈ S
theorem Ord1.put {l : List Opn} {T : List It} (h : Ord1 l T) {o : Opn} (ho : o ∈ l) : Ord1 l (putR (pre ++ o.id) o.box T) := by
  intro z hz
  unfold putR at hz
  split at hz
  · rcases List.mem_cons.1 ((putS_perm _ _ T).mem_iff.1 hz) with rfl | h2
    · exact ⟨o, ho, rfl⟩
    · exact h z h2
  · exact h z hz
theorem drop_pred {l : List Opn} {k : Nat} (h : k < l.length) : l.drop k = l[k] :: l.drop (k + 1) := List.drop_eq_getElem_cons h
/-- phase two, at one operation. -/
theorem Ord2.skip {P S : List It} {l : List Opn} {k : Nat} {T : List It} (h : Ord2 P S l (k + 1) T) (hk : k < l.length) (hb : boxS l[k].id S = none) : Ord2 P S l k T := by
  intro z
  rw [h z, drop_pred hk]
  refine or_congr Iff.rfl (and_congr_right fun hz => ?_)
  constructor
  · rintro ⟨o, h1, h2⟩
    exact ⟨o, List.mem_cons_of_mem _ h1, h2⟩
  · rintro ⟨o, h1, h2⟩
    rcases List.mem_cons.1 h1 with rfl | h1
    · exact absurd h2.symm (box_none.1 hb z hz)
    · exact ⟨o, h1, h2⟩
theorem Ord2.twice {P S : List It} {l : List Opn} {k : Nat} {T : List It} (h : Ord2 P S l (k + 1) T) (hk : k < l.length) (hT : Srt T) (hP : ∀ z ∈ P, z.1 ≠ l[k].id) {b : Bx} (hb : boxS l[k].id T = some b) : Ord2 P S l k T := by
  intro z
  have h1 := (box_some hT.nodup).1 hb
  have h2 : ∃ o ∈ l.drop (k + 1), o.id = l[k].id := by
    rcases (h _).1 h1 with g | ⟨_, g⟩
    · exact absurd rfl (hP _ g)
    · exact g
  rw [h z, drop_pred hk]
  refine or_congr Iff.rfl (and_congr_right fun hz => ?_)
  constructor
  · rintro ⟨o, h1, h2⟩
    exact ⟨o, List.mem_cons_of_mem _ h1, h2⟩
  · rintro ⟨o, h3, h4⟩
    rcases List.mem_cons.1 h3 with rfl | h3
    · obtain ⟨o', g1, g2⟩ := h2
      exact ⟨o', g1, g2.trans h4⟩
    · exact ⟨o, h3, h4⟩
theorem Ord2.put {P S : List It} {l : List Opn} {k : Nat} {T : List It} (h : Ord2 P S l (k + 1) T) (hk : k < l.length) (hS : Srt S) {b : Bx} (hb : boxS l[k].id S = some b) : Ord2 P S l k (putS l[k].id b T) := by
  intro z
  rw [(putS_perm _ _ T).mem_iff, List.mem_cons, h z, drop_pred hk]
  have hm := (box_some hS.nodup).1 hb
  constructor
  · rintro (rfl | h1 | ⟨h1, o, h2, h3⟩)
    · exact .inr ⟨hm, l[k], List.mem_cons_self .., rfl⟩
    · exact .inl h1
    · exact .inr ⟨h1, o, List.mem_cons_of_mem _ h2, h3⟩
  · rintro (h1 | ⟨h1, o, h2, h3⟩)
    · exact .inr (.inl h1)
    · rcases List.mem_cons.1 h2 with rfl | h2
      · exact .inl (fst_inj hS.nodup h1 hm h3.symm)
      · exact .inr (.inr ⟨h1, o, h2, h3⟩)
theorem Ord2.ends {P S : List It} {l : List Opn} {T : List It} (h : Ord2 P S l 0 T) (hS : ∀ z ∈ S, ∃ o ∈ l, o.id = z.1) : Ord3 P S l 0 T := by
  intro z
  rw [h z, List.drop_zero]
  constructor
  · rintro (h1 | ⟨h1, _⟩)
    · exact .inl ⟨h1, fun o ho => by cases ho⟩
    · exact .inr h1
  · rintro (⟨h1, _⟩ | h1)
    · exact .inl h1
    · exact .inr ⟨h1, hS z h1⟩
theorem Ord3.drop {P S : List It} {l : List Opn} {k : Nat} {T : List It} (h : Ord3 P S l k T) (hk : k < l.length) (hS : ∀ z ∈ S, z.1.length ≤ 100) : Ord3 P S l (k + 1) (dropS (pre ++ l[k].id) T) := by
  intro z
  unfold dropS
  rw [List.mem_filter, h z, List.take_succ_eq_append_getElem hk, decide_eq_true_iff]
  constructor
  · rintro ⟨⟨h1, h2⟩ | h1, h3⟩
    · refine .inl ⟨h1, fun o ho => ?_⟩
      rcases List.mem_append.1 ho with ho | ho
      · exact h2 o ho
      · rw [List.mem_singleton] at ho
        subst ho
        exact h3
    · exact .inr h1
  · rintro (⟨h1, h2⟩ | h1)
    · exact ⟨.inl ⟨h1, fun o ho => h2 o (List.mem_append_left _ ho)⟩, h2 _ (List.mem_append_right _ (List.mem_singleton.2 rfl))⟩
    · refine ⟨.inr h1, fun e => ?_⟩
      have h3 := hS z h1
      rw [e, pre_len] at h3
      omega
theorem Ord3.ends {P S : List It} {l : List Opn} {T : List It} (h : Ord3 P S l l.length T) (hP : Ord1 l P) (hS : Srt S) (hT : Srt T) : T = S := by
  refine srt_eq hT hS ?_
  have nd : ∀ {L : List It}, Srt L → L.Nodup := fun {L} hL => List.Pairwise.imp (S := fun a b => a ≠ b) (fun {a b} g e => by subst e; exact List.lt_irrefl _ g) hL
  refine (List.perm_ext_iff_of_nodup (nd hT) (nd hS)).2 fun z => ?_
  rw [h z, List.take_length]
  constructor
  · rintro (⟨h1, h2⟩ | h1)
    · obtain ⟨o, ho, e⟩ := hP z h1
      exact absurd e (h2 o ho)
    · exact h1
  · exact .inr
theorem opsR_ids (l : List Opn) : ∀ z ∈ opsR l [], ∃ o ∈ l, o.id = z.1 := by
  have : ∀ (m : List Opn) (S : List It), (∀ z ∈ S, ∃ o ∈ l, o.id = z.1) → (∀ o ∈ m, o ∈ l) → ∀ z ∈ opsR m S, ∃ o ∈ l, o.id = z.1 := by
    intro m
    induction m with
    | nil => exact fun S h _ => h
    | cons o m ih => exact fun S h hm => ih _ (opR_inv h fun _ => ⟨o, hm o (List.mem_cons_self ..), rfl⟩) fun q hq => hm q (List.mem_cons_of_mem _ hq)
  exact this l [] (fun z h => by cases h) fun o h => h
theorem IxA.low {w w' : World} {b0 x n B : Nat} {S : List It} (h : IxA w b0 x n S) (hB : w.heap.size ≤ B) (hb : Below B w w') : IxZ w' (fun k => B ≤ k) x n S :=
  (h.zone (fun k => B ≤ k) fun k hk => .inr (Nat.le_trans hB hk)).keep (T := fun k => B ≤ k) ⟨hb.os, hb.tape, hb.output, hb.size, fun k _ h => hb.block k (by omega)⟩ fun _ h => h
theorem cat_pre {s : ByteArray} {i : Id} (hs : s = ⟨pre.toArray⟩) : s ++ ByteArray.mk i.toArray = ⟨(pre ++ i).toArray⟩ := by
  subst hs
  apply ByteArray.ext
  simp
theorem cat_plus (k : Nat) : ByteArray.mk (List.replicate k 43).toArray ++ ByteArray.mk #[43] = ⟨(List.replicate (k + 1) 43).toArray⟩ := by
  apply ByteArray.ext
  apply Array.ext'
  simp [List.replicate_succ']
theorem size_plus (o : ByteArray) : (o ++ ByteArray.mk #[43]).size = o.size + 1 := by rw [ByteArray.size_append]; rfl
theorem idx_back (q : Nat) : (q = 0 ∧ Value.int .i64 ((q : Int) - 1) = .int .i64 (-1)) ∨ ∃ r : Nat, q = r + 1 ∧ Value.int .i64 ((q : Int) - 1) = .int .i64 r := by
  rcases q with _ | r
  · exact .inl ⟨rfl, rfl⟩
  · exact .inr ⟨r, rfl, by congr 1; omega⟩
set_option maxRecDepth 100000 in
set_option maxHeartbeats 16000000 in
theorem orders_any (ao : Option Addr) (n cap : Nat) (l : List Opn) (b : Bx) (px py i1 : Int) (w : World) (hn : l.length = n) (ha : OpsT w w.heap.size ao l) (hc : n ≤ cap) :
    Calls Try.prog 6 #[.slice ao n cap, vB b, vP px py, .int .i64 i1] w fun e w' => e = .returned (.bool true) ∧ Below w.heap.size w w' := by
  obtain ⟨sh, hsh⟩ : ∃ p, (decide (n ≤ 60) && shortB l) = p := ⟨_, rfl⟩
  obtain ⟨W, hW, hB, r0, r1⟩ := two_made w 26 24 (cB b) #[.int .i64 px, .int .i64 py]
  have HW := Lib.hid hW
  have B0 := Lib.hid hB
  have RB := Lib.hid r0
  have RP := Lib.hid r1
  have HN := Lib.hid hn
  have HA := Lib.hid (ha.below hB (Nat.le_refl _))
  have hsz : w.heap.size ≤ W.heap.size := hB.size
  have SH := Lib.hid hsh
  have HCC := Lib.hid hc
  have hc' : (n : Int) ≤ (cap : Int) := by omega
  clear hW hB r0 r1 hn ha hsh hc
  unfold cB at HW
  unfold vB vP
  go_enter Try.func6, Try.ntmps6
  go_upto_region 1 with fail
  rw [HW.out]
  go_wp2_with fail
  refine (head_any W).mono ?_
  rintro e w0 ⟨rfl, bb⟩
  have B1 := Lib.hid (B0.out.trans (bb.mono hsz))
  have RB1 := Lib.hid (RB.out.below bb RB.out.inside)
  have RP1 := Lib.hid (RP.out.below bb RP.out.inside)
  have HA1 := Lib.hid ((HA.out.more hsz).below bb (Nat.le_refl _))
  have HZ1 := Lib.hid (show W.heap.size ≤ w0.heap.size from bb.size)
  clear bb HW B0 RB RP HA
  have KS := Lib.hid (short_any ao n cap 60 l w0 HN.out (HA1.out.more HZ1.out) HCC.out (by omega))
  rw [SH.out] at KS
  go_wp2_with fail
  refine KS.out.mono ?_
  rintro e w' ⟨rfl, rfl⟩
  clear KS
  cases sh with
  | false =>
    go_wp2
    go_ret
    exact ⟨rfl, B1.out⟩
  | true =>
    obtain ⟨s1, s2⟩ : n ≤ 60 ∧ shortB l = true := by
      have := SH.out
      rw [Bool.and_eq_true, decide_eq_true_iff] at this
      exact this
    have N60 := Lib.hid s1
    have n60 : (n : Int) ≤ 60 := by omega
    have IDS := Lib.hid (short_ids s2)
    clear s1 s2
    have KB := Lib.hid (built_any ao n cap l w0 HN.out (HA1.out.more HZ1.out) HCC.out (by have := N60.out; omega) (fun o ho => by have := IDS.out o ho; omega))
    unfold ptr at KB
    go_wp2_with fail
    refine KB.out.mono ?_
    rintro e w3 ⟨x, rfl, h3, bb⟩
    have SV := Lib.hid (opsR_valid l)
    have SI := Lib.hid (opsR_ids l)
    generalize opsR l [] = S at h3 SV SI
    have B4 := Lib.hid (B1.out.trans (bb.mono B1.out.size))
    have RB4 := Lib.hid (RB1.out.below bb RB1.out.inside)
    have RP4 := Lib.hid (RP1.out.below bb RP1.out.inside)
    have HA4 := Lib.hid (((HA1.out.more HZ1.out).below bb (Nat.le_refl _)).more bb.size)
    have H3 := Lib.hid h3
    have S100 := Lib.hid (show ∀ z ∈ S, z.1.length ≤ 100 from fun z hz => by
      obtain ⟨o, ho, e⟩ := SI.out z hz
      rw [← e]
      exact IDS.out o ho)
    clear bb h3 B1 RB1 RP1 HA1 KB
    have KN := newA w3
    unfold ptr at KN
    go_wp2_with fail
    refine KN.mono ?_
    rintro e w4 ⟨y, rfl, h4, bb⟩
    have D4 := Lib.hid bb
    have H4 := Lib.hid h4
    clear bb h4 KN
    go_wp2_with fail
    go_loop [12] (fun s => ∃ k : Nat, 1 ≤ k ∧ k ≤ 101 ∧ ∃ o : ByteArray, s = .string o ∧ Hid (o = ⟨(List.replicate k 43).toArray⟩) ∧ (o.size : Int) = k) (fun s => match s with | .string o => 101 - o.size | _ => 0)
    case atStart => exact ⟨1, by omega, by omega, _, rfl, Lib.hid rfl, rfl⟩
    case round =>
      obtain ⟨k, hk1, hk2, o, rfl, HO, hsz2⟩ := hrel
      by_cases hlt : k < 101
      · have hl1 : (o.size : Int) < 101 := by omega
        have hl2 : ¬ 9223372036854775807 < o.size + 1 := by omega
        have hl3 : o.size < 101 := by omega
        go_wp2
        go_round
        case rel => exact ⟨k + 1, by omega, by omega, _, rfl, Lib.hid (by rw [HO.out]; exact cat_plus k), by rw [size_plus]; omega⟩
        case measure =>
          show 101 - (o ++ ByteArray.mk #[43]).size < 101 - o.size
          rw [size_plus]
          omega
      · obtain rfl : k = 101 := by omega
        have HP := Lib.hid (show o = ⟨pre.toArray⟩ from HO.out)
        have hl1 : ¬ (o.size : Int) < 101 := by omega
        have osz : o.size = 101 := by omega
        have OSZ := Lib.hid osz
        clear HO hk1 hk2 hlt osz hsz2
        go_wp2_with fail
        clear hl1
        go_loopw [13] (fun i wr => ∃ k : Nat, k ≤ n ∧ i = .int .i64 k ∧ Hid (∃ T, IxA wr w3.heap.size y k T ∧ Ord1 l T) ∧ Hid (Below w3.heap.size w3 wr)) (fun i _ => n - (intOf i).toNat)
        case atStart => exact ⟨0, by omega, rfl, Lib.hid ⟨[], H4.out, fun z h => by cases h⟩, D4⟩
        case round =>
          obtain ⟨k, hk, rfl, HT, HK⟩ := hrel
          by_cases hlt : k < n
          · have hkl : k < l.length := by rw [HN.out]; exact hlt
            have hlt2 : (k : Int) < (n : Int) := by omega
            have hco := (HA4.out.below HK.out (Nat.le_refl _)).at_ hkl
            obtain ⟨T, hT, hO⟩ := HT.out
            have hy := IDS.out _ (List.getElem_mem hkl)
            have hPut := Lib.hid (hO.put (List.getElem_mem hkl))
            have hP := Lib.hid (fun (w' : World) (hb : Below wr.heap.size wr w') => putA (hT.below hb) (pre ++ l[k].id) l[k].box (by rw [pre_len]; omega) (by omega))
            have LL := Lib.hid hy
            generalize l[k] = oo at *
            obtain ⟨od, i, ⟨ba, bb, bc, bd⟩⟩ := oo
            dsimp only at hco hPut hP LL
            obtain ⟨g1, o1, rfl, hg1, _, c1, c2, c3, c4, c5⟩ := hco
            have hcat := cat_pre (i := i) HP.out
            have hl1 : ¬ 9223372036854775807 < o.size + (ByteArray.mk i.toArray).size := by
              have e1 := OSZ.out
              have e2 := LL.out
              show ¬ 9223372036854775807 < o.size + i.toArray.size
              simp only [List.size_toArray]
              omega
            have hl2 : ¬ 9223372036854775807 < o.size + i.length := by
              have e1 := OSZ.out
              have e2 := LL.out
              omega
            unfold vB ptr at hP
            dsimp only at hP
            have KG := Lib.hid (fun (w' : World) (hb : Below w3.heap.size wr w') => (show w'.cell? ⟨g1, o1 + k * 6 + 1, none⟩ = some (.string ⟨i.toArray⟩) ∧ w'.cell? ⟨g1, o1 + k * 6 + 2, none⟩ = some (.int .i64 ba) ∧ w'.cell? ⟨g1, o1 + k * 6 + 3, none⟩ = some (.int .i64 bb) ∧ w'.cell? ⟨g1, o1 + k * 6 + 4, none⟩ = some (.int .i64 bc) ∧ w'.cell? ⟨g1, o1 + k * 6 + 5, none⟩ = some (.int .i64 bd) from ⟨(hb.cell (p := ⟨g1, _, none⟩) hg1).trans c1, (hb.cell (p := ⟨g1, _, none⟩) hg1).trans c2, (hb.cell (p := ⟨g1, _, none⟩) hg1).trans c3, (hb.cell (p := ⟨g1, _, none⟩) hg1).trans c4, (hb.cell (p := ⟨g1, _, none⟩) hg1).trans c5⟩))
            have KS := KG.out wr.drew ((drew_below wr).mono HK.out.size)
            clear hkl hy hT hO HT
            go_upto_region 12 with fail
            go_region_held3 (fun w' => w'.cell? ⟨g1, o1 + k * 6 + 1, none⟩ = some (.string ⟨i.toArray⟩) ∧ w'.cell? ⟨g1, o1 + k * 6 + 2, none⟩ = some (.int .i64 ba) ∧ w'.cell? ⟨g1, o1 + k * 6 + 3, none⟩ = some (.int .i64 bb) ∧ w'.cell? ⟨g1, o1 + k * 6 + 4, none⟩ = some (.int .i64 bc) ∧ w'.cell? ⟨g1, o1 + k * 6 + 5, none⟩ = some (.int .i64 bd)) (first | exact KS | go_keep)
              (first
                | (go_at_call 29; (with_reducible refine (hP.out _ (drew_below wr)).mono ?_); rintro e w5 ⟨rfl, h5', b5⟩; have h5 := Lib.hid h5'; clear h5'; have B5 := Lib.hid (HK.out.trans (((drew_below wr).mono HK.out.size).trans b5)); have KS := KG.out w5 (((drew_below wr).mono HK.out.size).trans b5)))
            all_goals
              clear KS KG hP c1 c2 c3 c4 c5 hcat hl1 hl2
              go_wp2
              go_roundw
              case rel => exact ⟨k + 1, by omega, by go_num, Lib.hid ⟨_, h5.out, hPut.out⟩, B5⟩
              case measure => simp [intOf]; omega
          · obtain rfl : n = k := by omega
            obtain ⟨P, hP, hO⟩ := HT.out
            have HO1 := Lib.hid hO
            have KI := Lib.hid (inA_any hP b (by omega))
            have RB5 := Lib.hid (RB4.out.below HK.out RB4.out.inside)
            obtain ⟨b0, b1, b2, b3⟩ := box_facts RB5.out
            have HPP := Lib.hid hP
            unfold vB ptr at KI
            clear HT hP hO
            go_wp2_with fail
            refine KI.out.mono ?_
            rintro e w5 ⟨⟨_, _, rfl, _, _⟩, b5⟩
            have K5 := Lib.hid (HK.out.trans (b5.mono HK.out.size))
            have HP5 := Lib.hid (HPP.out.below b5)
            have HX := Lib.hid (fun (w' : World) (hb : Below w3.heap.size w3 w') => IxA.low H3.out (Nat.le_refl _) hb)
            have PN := Lib.hid (show ∀ z ∈ P, 101 ≤ z.1.length from fun z hz => by
              obtain ⟨o, _, e⟩ := HO1.out z hz
              rw [e, pre_len]
              omega)
            clear KI b5 b0 b1 b2 b3 RB5 HK HPP
            go_wp2_with fail
            go_loopw [14] (fun i wr => ∃ k : Nat, k ≤ n ∧ (k = 0 ∧ i = .int .i64 (-1) ∨ ∃ r : Nat, k = r + 1 ∧ i = .int .i64 r) ∧ Hid (∃ m T, m + k ≤ 2 * n ∧ IxA wr w3.heap.size y m T ∧ Ord2 P S l k T) ∧ Hid (Below w3.heap.size w3 wr)) (fun i _ => (intOf i + 1).toNat)
            case atStart => exact ⟨n, by omega, idx_back n, Lib.hid ⟨n, P, by omega, HP5.out, fun z => ⟨.inl, fun h => h.elim id fun h => by
              obtain ⟨_, o, ho, _⟩ := h
              rw [← HN.out, List.drop_length] at ho
              cases ho⟩⟩, K5⟩
            case round =>
              obtain ⟨k, hk, hidx, HT, HK⟩ := hrel
              rcases hidx with ⟨rfl, rfl⟩ | ⟨q, rfl, rfl⟩
              · obtain ⟨m, T, hm, hT, hO⟩ := HT.out
                have HT2 := Lib.hid (show ∃ m T, m ≤ 2 * n ∧ IxA wr w3.heap.size y m T ∧ Ord3 P S l 0 T from ⟨m, T, by omega, hT, hO.ends SI.out⟩)
                clear hT hO HT hm HP5 K5
                obtain ⟨v0, hv0⟩ : ∃ v, v = wr := ⟨_, rfl⟩
                subst hv0
                go_wp2_with fail
                go_loopw [19] (fun i wr => ∃ k : Nat, k ≤ n ∧ i = .int .i64 k ∧ Hid (∃ m T, m ≤ 2 * n + k ∧ IxA wr w3.heap.size y m T ∧ Ord3 P S l k T) ∧ Hid (Below w3.heap.size w3 wr)) (fun i _ => n - (intOf i).toNat)
                case atStart => exact ⟨0, by omega, rfl, Lib.hid (by obtain ⟨m, T, h1, h2, h3⟩ := HT2.out; exact ⟨m, T, by omega, h2, h3⟩), HK⟩
                case round =>
                  clear HK HT2
                  obtain ⟨k, hk, rfl, HT, HK⟩ := hrel
                  by_cases hlt : k < n
                  · have hkl : k < l.length := by rw [HN.out]; exact hlt
                    have hlt2 : (k : Int) < (n : Int) := by omega
                    obtain ⟨g1, o1, rfl, hg1, e0, c1, e2, e3, e4, e5⟩ := (HA4.out.below HK.out (Nat.le_refl _)).at_ hkl
                    clear e0 e2 e3 e4 e5
                    obtain ⟨m, T, hm, hT, hO⟩ := HT.out
                    have hy := IDS.out _ (List.getElem_mem hkl)
                    have hO3 := Lib.hid (hO.drop hkl S100.out)
                    have hP := Lib.hid (dropA hT (pre ++ l[k].id) (by rw [pre_len]; omega) (by omega))
                    have LL := Lib.hid hy
                    generalize l[k].id = i at *
                    have hcat := cat_pre (i := i) HP.out
                    have hl1 : ¬ 9223372036854775807 < o.size + (ByteArray.mk i.toArray).size := by
                      have e1 := OSZ.out
                      have e2 := LL.out
                      show ¬ 9223372036854775807 < o.size + i.toArray.size
                      simp only [List.size_toArray]
                      omega
                    have hl2 : ¬ 9223372036854775807 < o.size + i.length := by
                      have e1 := OSZ.out
                      have e2 := LL.out
                      omega
                    have HM := Lib.hid hm
                    unfold ptr at hP
                    clear hkl hy hT hO HT hm
                    go_wp2_with fail
                    refine hP.out.mono ?_
                    rintro e w6 ⟨rfl, h6', b6⟩
                    have h6 := Lib.hid h6'
                    have B6 := Lib.hid (HK.out.trans b6)
                    clear h6' b6 hP c1 hcat hl1 hl2
                    go_wp2
                    go_roundw
                    case rel => exact ⟨k + 1, by omega, by go_num, Lib.hid ⟨_, _, by have := HM.out; omega, h6.out, hO3.out⟩, B6⟩
                    case measure => simp [intOf]; omega
                  · obtain rfl : n = k := by omega
                    obtain ⟨m, T, hm, hT, hO⟩ := HT.out
                    rw [← HN.out] at hO
                    obtain rfl : T = S := hO.ends HO1.out H3.out.srt.1 hT.srt.1
                    obtain ⟨L1, hL1⟩ : ∃ L, inA b T = L := ⟨_, rfl⟩
                    obtain ⟨L2, hL2⟩ : ∃ L, nearR px py i1 T = L := ⟨_, rfl⟩
                    obtain ⟨n1, hn1⟩ : ∃ k, L1.length = k := ⟨_, rfl⟩
                    obtain ⟨n2, hn2⟩ : ∃ k, L2.length = k := ⟨_, rfl⟩
                    have inA_y := fun (w' : World) (hb : Below wr.heap.size wr w') => inA_any (hT.below hb) b (by omega)
                    have inA_x := fun (w' : World) (hb : Below wr.heap.size wr w') => inZ (HX.out w' (HK.out.trans (hb.mono HK.out.size))) b (by omega)
                    have nearA_y := fun (w' : World) (hb : Below wr.heap.size wr w') => nearA_any (hT.below hb) px py i1 (by omega)
                    have nearA_x := fun (w' : World) (hb : Below wr.heap.size wr w') => nearZ (HX.out w' (HK.out.trans (hb.mono HK.out.size))) px py i1 (by omega)
                    replace inA_x := fun (w' : World) (hb : Below wr.heap.size wr w') => (inA_x w' hb).mono fun e w'' (h : (∃ ao cap, e = .returned (.slice ao (inA b T).length cap) ∧ (inA b T).length ≤ cap ∧ IdsZ w'' (fun k => w'.heap.size ≤ k) ao (inA b T)) ∧ Below w'.heap.size w' w'') => (show (∃ ao cap, e = .returned (.slice ao (inA b T).length cap) ∧ (inA b T).length ≤ cap ∧ IdsT w'' w''.heap.size ao (inA b T)) ∧ Below w'.heap.size w' w'' by
                      obtain ⟨⟨ao, cap, h1, h2, h3⟩, h4⟩ := h
                      exact ⟨⟨ao, cap, h1, h2, h3.ids⟩, h4⟩)
                    replace nearA_x := fun (w' : World) (hb : Below wr.heap.size wr w') => (nearA_x w' hb).mono fun e w'' (h : (∃ ao cap, e = .returned (.slice ao (nearR px py i1 T).length cap) ∧ (nearR px py i1 T).length ≤ cap ∧ IdsZ w'' (fun k => w'.heap.size ≤ k) ao (nearR px py i1 T)) ∧ Below w'.heap.size w' w'') => (show (∃ ao cap, e = .returned (.slice ao (nearR px py i1 T).length cap) ∧ (nearR px py i1 T).length ≤ cap ∧ IdsT w'' w''.heap.size ao (nearR px py i1 T)) ∧ Below w'.heap.size w' w'' by
                      obtain ⟨⟨ao, cap, h1, h2, h3⟩, h4⟩ := h
                      exact ⟨⟨ao, cap, h1, h2, h3.ids⟩, h4⟩)
                    have L60 := Lib.hid (show n1 ≤ 60 ∧ n2 ≤ 60 by
                      have e1 := H3.out.srt.2
                      have e3 := in_le b T
                      have e4 := near_le px py i1 T
                      rw [hL1, hn1] at e3
                      rw [hL2, hn2] at e4
                      omega)
                    rw [hL1, hn1] at inA_x inA_y
                    rw [hL2, hn2] at nearA_x nearA_y
                    unfold vB ptr at inA_x inA_y
                    unfold vP ptr at nearA_x nearA_y
                    have HN1 := Lib.hid hn1
                    have HN2 := Lib.hid hn2
                    have KG := Lib.hid (fun (w' : World) (hb : Below wr.heap.size wr w') => (show (w'.cell? ⟨w.heap.size, 0, none⟩ = some (.int .i64 b.a) ∧ w'.cell? ⟨w.heap.size, 1, none⟩ = some (.int .i64 b.b) ∧ w'.cell? ⟨w.heap.size, 2, none⟩ = some (.int .i64 b.c) ∧ w'.cell? ⟨w.heap.size, 3, none⟩ = some (.int .i64 b.d)) ∧ w'.cell? ⟨w.heap.size + 1, 0, none⟩ = some (.int .i64 px) ∧ w'.cell? ⟨w.heap.size + 1, 1, none⟩ = some (.int .i64 py) from ⟨(RB4.out.below HK.out RB4.out.inside).bx hb (RB4.out.below HK.out RB4.out.inside).inside, ((RP4.out.below HK.out RP4.out.inside).below hb (RP4.out.below HK.out RP4.out.inside).inside).get 0, ((RP4.out.below HK.out RP4.out.inside).below hb (RP4.out.below HK.out RP4.out.inside).inside).get 1⟩))
                    have KS := KG.out wr.drew (drew_below _)
                    have BF := Lib.hid (B4.out.trans (HK.out.mono B4.out.size))
                    clear hL1 hL2 hn1 hn2 hT hO HT hm
                    go_wp2_with fail
                    go_region_held3 (fun w' => (w'.cell? ⟨w.heap.size, 0, none⟩ = some (.int .i64 b.a) ∧ w'.cell? ⟨w.heap.size, 1, none⟩ = some (.int .i64 b.b) ∧ w'.cell? ⟨w.heap.size, 2, none⟩ = some (.int .i64 b.c) ∧ w'.cell? ⟨w.heap.size, 3, none⟩ = some (.int .i64 b.d)) ∧ w'.cell? ⟨w.heap.size + 1, 0, none⟩ = some (.int .i64 px) ∧ w'.cell? ⟨w.heap.size + 1, 1, none⟩ = some (.int .i64 py)) (first | exact KS | go_keep)
                      (first
                        | (go_at_call 18; (with_reducible refine (same_any _ _ n2 _ _ L2 v5 HN2.out ((j4.out.below b5 (Nat.le_refl _)).more b5.size) j5.out C4.out C5.out (by have := L60.out; omega)).mono ?_); rintro e v6 ⟨rfl, b6⟩; have G6 := Lib.hid (G5.out.trans (b6.mono G5.out.size)); have KS := KG.out v6 G6.out)
                        | (go_at_call 21; (with_reducible refine ((nearA_y v4 G4.out)).mono ?_); rintro e v5 ⟨⟨ao5, c5, rfl, hc5, j5'⟩, b5⟩; have j5 := Lib.hid j5'; clear j5'; have C5 := Lib.hid hc5; clear hc5; have G5 := Lib.hid (G4.out.trans (b5.mono G4.out.size)); have KS := KG.out v5 G5.out)
                        | (go_at_call 21; (with_reducible refine ((nearA_x v3 G3.out)).mono ?_); rintro e v4 ⟨⟨ao4, c4, rfl, hc4, j4'⟩, b4⟩; have j4 := Lib.hid j4'; clear j4'; have C4 := Lib.hid hc4; clear hc4; have G4 := Lib.hid (G3.out.trans (b4.mono G3.out.size)); have KS := KG.out v4 G4.out)
                        | (go_at_call 18; (with_reducible refine (same_any _ _ n1 _ _ L1 v2 HN1.out ((j1.out.below b2 (Nat.le_refl _)).more b2.size) j2.out C1.out C2.out (by have := L60.out; omega)).mono ?_); rintro e v3 ⟨rfl, b3⟩; have G3 := Lib.hid (G2.out.trans (b3.mono G2.out.size)); have KS := KG.out v3 G3.out)
                        | (go_at_call 19; (with_reducible refine ((inA_y v1 G1.out)).mono ?_); rintro e v2 ⟨⟨ao2, c2, rfl, hc2, j2'⟩, b2⟩; have j2 := Lib.hid j2'; clear j2'; have C2 := Lib.hid hc2; clear hc2; have G2 := Lib.hid (G1.out.trans (b2.mono G1.out.size)); have KS := KG.out v2 G2.out)
                        | (go_at_call 19; (with_reducible refine ((inA_x _ (drew_below _))).mono ?_); rintro e v1 ⟨⟨ao1, c1, rfl, hc1, j1'⟩, b1⟩; have j1 := Lib.hid j1'; clear j1'; have C1 := Lib.hid hc1; clear hc1; have G1 := Lib.hid ((drew_below wr).trans (b1.mono (drew_below wr).size)); have KS := KG.out v1 G1.out))
                    all_goals
                      go_wp2
                      go_ret
                      exact ⟨rfl, BF.out.trans (G6.out.mono BF.out.size)⟩
              · have hkl : q < l.length := by rw [HN.out]; omega
                have hlt2 : (q : Int) < (n : Int) := by omega
                have hq0 : (0 : Int) ≤ (q : Int) := by omega
                obtain ⟨g1, o1, rfl, hg1, e0, c1, e2, e3, e4, e5⟩ := (HA4.out.below HK.out (Nat.le_refl _)).at_ hkl
                clear e0 e2 e3 e4 e5
                obtain ⟨m, T, hm, hT, hO⟩ := HT.out
                have hy := IDS.out _ (List.getElem_mem hkl)
                have O1 := Lib.hid (fun hb => hO.skip hkl hb)
                have O2 := Lib.hid (fun b (hb : boxS l[q].id T = some b) => hO.twice hkl hT.srt.1 (fun z hz e => by
                  have := PN.out z hz
                  rw [e] at this
                  omega) hb)
                have O3 := Lib.hid (fun b (hb : boxS l[q].id S = some b) => hO.put hkl H3.out.srt.1 hb)
                have KX := Lib.hid (boxZ (HX.out wr HK.out) l[q].id (by omega))
                have KY := Lib.hid (fun (w' : World) (hb : Below wr.heap.size wr w') => boxA (hT.below hb) l[q].id (by omega))
                have KP := Lib.hid (fun (w' : World) (hb : Below wr.heap.size wr w') (own : Bx) => putA (hT.below hb) l[q].id own (by omega) (by omega))
                have HM := Lib.hid hm
                have HT3 := Lib.hid hT
                generalize l[q].id = i at *
                unfold vB ptr at KX KY KP
                clear hkl hy hT hO HT hm
                obtain ⟨bo, hbo⟩ : ∃ p, boxS i S = p := ⟨_, rfl⟩
                obtain ⟨bt, hbt⟩ : ∃ p, boxS i T = p := ⟨_, rfl⟩
                rw [hbo] at KX
                rw [hbt] at KY
                obtain ⟨own, hown⟩ : ∃ p, bo.getD zB = p := ⟨_, rfl⟩
                obtain ⟨tw, htw⟩ : ∃ p, bt.getD zB = p := ⟨_, rfl⟩
                obtain ⟨f1, hf1⟩ : ∃ p, bo.isSome = p := ⟨_, rfl⟩
                obtain ⟨f2, hf2⟩ : ∃ p, bt.isSome = p := ⟨_, rfl⟩
                rw [hown, hf1] at KX
                rw [htw, hf2] at KY
                have HBO := Lib.hid hbo
                have HBT := Lib.hid hbt
                have HOWN := Lib.hid hown
                have HF1 := Lib.hid hf1
                have HF2 := Lib.hid hf2
                clear hbo hbt hown htw hf1 hf2
                go_wp2_with fail
                refine KX.out.mono ?_
                rintro e w5 ⟨rfl, b5⟩
                go_upto_region 18 with fail
                obtain ⟨w6, hw6, b6, r6⟩ := box_made w5 26 own
                rw [hw6]
                have D6 := Lib.hid (b5.trans (b6.mono b5.size))
                have R6 := Lib.hid r6
                have c2 : w6.cell? ⟨g1, o1 + q * 6 + 1, none⟩ = some (.string ⟨i.toArray⟩) := (D6.out.cell (p := ⟨g1, _, none⟩) (Nat.lt_of_lt_of_le hg1 HK.out.size)).trans c1
                have KY6 := Lib.hid (KY.out w6 D6.out)
                clear KX b5 hw6 b6 r6 c1 KY
                go_wp2_with fail
                refine KY6.out.mono ?_
                rintro e w7 ⟨rfl, b7⟩
                go_upto_region 19 with fail
                obtain ⟨w8, hw8, b8, r8⟩ := box_made w7 26 tw
                rw [hw8]
                have D8 := Lib.hid (D6.out.trans ((b7.trans (b8.mono b7.size)).mono D6.out.size))
                have R8 := Lib.hid ((R6.out.below b7 R6.out.inside).below b8 (R6.out.below b7 R6.out.inside).inside)
                have c3 : w8.cell? ⟨g1, o1 + q * 6 + 1, none⟩ = some (.string ⟨i.toArray⟩) := by
                  have z6 : g1 < w6.heap.size := Nat.lt_of_lt_of_le hg1 (Nat.le_trans HK.out.size D6.out.size)
                  exact (b8.cell (p := ⟨g1, _, none⟩) (Nat.lt_of_lt_of_le z6 b7.size)).trans ((b7.cell (p := ⟨g1, _, none⟩) z6).trans c2)
                have K8 := Lib.hid (HK.out.trans (D8.out.mono HK.out.size))
                clear KY6 b7 hw8 b8 r8 c2 R6
                cases f1 with
                | false =>
                  have HQ := Lib.hid (O1.out (by rw [HBO.out]; have := HF1.out; simpa using this))
                  have HT4 := Lib.hid (HT3.out.below D8.out)
                  clear O1 O2 O3 KP D6
                  go_quiet (fail)
                  have H12 := Lib.hid (fun j => (show Below w8.heap.size w8 (w8.drewN j) from ⟨rfl, rfl, rfl, Nat.le_refl _, fun _ _ => rfl⟩))
                  go_wp2
                  go_roundw
                  case rel => exact ⟨q, by omega, idx_back q, Lib.hid ⟨m, T, by have := HM.out; omega, HT4.out.below (H12.out _), HQ.out⟩, Lib.hid (K8.out.trans ((H12.out _).mono K8.out.size))⟩
                  case measure => simp [intOf]
                | true =>
                  obtain rfl : bo = some own := by
                    have h1 := HF1.out
                    have h2 := HOWN.out
                    cases bo with
                    | none => cases h1
                    | some v => exact congrArg some h2
                  cases f2 with
                  | true =>
                    have HQ := Lib.hid (show Ord2 P S l q T by
                      cases bt with
                      | none => cases HF2.out
                      | some v => exact O2.out v HBT.out)
                    have HT4 := Lib.hid (HT3.out.below D8.out)
                    clear O1 O2 O3 KP D6
                    go_quiet (fail)
                    have H12 := Lib.hid (fun j => (show Below w8.heap.size w8 (w8.drewN j) from ⟨rfl, rfl, rfl, Nat.le_refl _, fun _ _ => rfl⟩))
                    go_wp2
                    go_roundw
                    case rel => exact ⟨q, by omega, idx_back q, Lib.hid ⟨m, T, by have := HM.out; omega, HT4.out.below (H12.out _), HQ.out⟩, Lib.hid (K8.out.trans ((H12.out _).mono K8.out.size))⟩
                    case measure => simp [intOf]
                  | false =>
                    have hbt : boxS i T = none := by
                      rw [HBT.out]
                      have := HF2.out
                      simpa using this
                    have hv := SV.out _ ((box_some H3.out.srt.1.nodup).1 HBO.out)
                    have HQ := Lib.hid (O3.out own HBO.out)
                    have KP8 := fun (w' : World) (hb : Below w8.heap.size w8 w') => KP.out w' (D8.out.trans (hb.mono D8.out.size)) own
                    rw [show putE i own T = 0 by unfold putE; rw [hv, hbt]; rfl, show putR i own T = putS i own T by unfold putR; rw [hv, hbt]; rfl] at KP8
                    have x0 := box_facts R8.out
                    obtain ⟨d0, d1, d2, d3⟩ := x0
                    clear O1 O2 O3 KP D6 hbt hv
                    have KQ := Lib.hid KP8
                    clear KP8
                    go_still_tail 13, (by kernel_rfl)
                    change wpList _ _ _ _ _ w8.drew
                    go_wp2_with fail
                    refine (KQ.out _ (drew_below w8)).mono ?_
                    rintro e w9 ⟨rfl, h9', b9⟩
                    all_goals
                      have h9 := Lib.hid h9'
                      have K9 := Lib.hid (K8.out.trans (((drew_below w8).mono K8.out.size).trans b9))
                      clear h9' b9 KQ d0 d1 d2 d3 c3
                      go_wp2
                      go_roundw
                      case rel => exact ⟨q, by omega, idx_back q, Lib.hid ⟨_, _, by have := HM.out; omega, h9.out, HQ.out⟩, K9⟩
                      case measure => simp [intOf]
end Go.Proofs.Yteghhfkllclghaa.Ix
