/-
  Units: Unit, Kind, the document's Is and Group; a sum, or that it runs over.
  Conditions: the arguments are ints.
-/
import Derived.Test.YtincbilobmhgeaaM08
import Derived.Test.YtincbilobmhgeaaM07
import Derived.Test.YtincbilobmhgeaaM06
import Derived.Test.YtincbilobmhgeaaM05

/-
  who of the program, with each of its three words on a unit's places.
  Conditions: the slices read as places, not too many.
-/
set_option linter.unusedVariables false
set_option linter.unusedSimpArgs false
namespace Go.Proofs.Ytincbilobmhgeaa
open Go.RowKit Go.Maps

def whoT (hold : Pl → Pl → Bool) (F1 F2 : Int → Option Pl) (xs : List Int) : List Int := xs.filter fun u => hold (plF F1 u) (plF F2 u)
theorem whoT_le (hold : Pl → Pl → Bool) (F1 F2 : Int → Option Pl) (xs : List Int) (k : Nat) : (whoT hold F1 F2 (xs.take k)).length ≤ k := by
  unfold whoT
  refine Nat.le_trans (List.length_filter_le _ _) ?_
  rw [List.length_take]
  omega
theorem whoT_succ {hold : Pl → Pl → Bool} {F1 F2 : Int → Option Pl} {xs : List Int} {k : Nat} {u : Int} (h : xs[k]? = some u) : whoT hold F1 F2 (xs.take (k + 1)) = if hold (plF F1 u) (plF F2 u) = true then whoT hold F1 F2 (xs.take k) ++ [u] else whoT hold F1 F2 (xs.take k) := by
  unfold whoT
  rw [List.take_add_one, h]
  show List.filter _ (xs.take k ++ [u]) = _
  rw [List.filter_append]
  cases hh : hold (plF F1 u) (plF F2 u) <;> simp [List.filter, hh]
/-- What who answers. -/
def RetWho (hold : Pl → Pl → Bool) (F1 F2 : Int → Option Pl) (w : World) (e : Ending) (w9 : World) : Prop := ∃ xs, UnitsOf F1 F2 xs ∧ RetL (whoT hold F1 F2 xs) w e w9

set_option maxRecDepth 100000 in
set_option maxHeartbeats 4000000 in
theorem whoMoved_any (f1 f2 : Int) (m1 m2 : Nat) (v1 v2 : Value) (la lb : List Pl) (w : World) (h1 : PlsAt w v1 la) (h2 : PlsAt w v2 lb) (hl1 : la.length ≤ 1000) (hl2 : lb.length ≤ 1000) (hu1 : ∀ x ∈ la, -9223372036854775808 ≤ x.u ∧ x.u ≤ 9223372036854775807) (hu2 : ∀ x ∈ lb, -9223372036854775808 ≤ x.u ∧ x.u ≤ 9223372036854775807) :
    Calls Try.prog 24 #[planA f1 m1 v1, planA f2 m2 v2, .func (.func 25) #[] #[]] w (RetWho mvB (idxF la) (idxF lb) w) := by
  obtain ⟨i0, hi, hz0, hz1, hz2⟩ := info_parts Try.infoInt
  obtain ⟨w1, P, hw1, hP, hPl, hb1, hpb⟩ := box_any w #[.int .i64 f1, .int .u32 m1, v1] 25
  obtain ⟨w2, Q, hw2, hQ, hQl, hb2, hqb⟩ := box_any w1 #[.int .i64 f2, .int .u32 m2, v2] 25
  have HB2 := Lib.hid (hb1.trans (hb2.mono hb1.size))
  obtain ⟨r0, r1, r2⟩ := three_heads (keep_block hpb hb2)
  obtain ⟨q0, q1, q2⟩ := three_heads hqb
  have HQ := Lib.hid (query_any f1 f2 m1 m2 v1 v2 la lb w2 (h1.keep HB2.out) (h2.keep HB2.out) hl1 hl2 hu1 hu2)
  unfold planA RetQ at HQ
  obtain ⟨N, hN⟩ : ∃ N, la.length + lb.length = N := ⟨_, rfl⟩
  have hN2 : N ≤ 2000 := by omega
  rw [hN] at HQ
  obtain ⟨FA, hFA⟩ : ∃ F, idxF la = F := ⟨_, rfl⟩
  obtain ⟨FB, hFB⟩ : ∃ F, idxF lb = F := ⟨_, rfl⟩
  rw [hFA, hFB] at HQ ⊢
  have hvf1 : ∃ A n c, v1 = .slice A n c := by obtain ⟨A, c, e, _⟩ := h1.form; exact ⟨A, _, c, e⟩
  have hvf2 : ∃ A n c, v2 = .slice A n c := by obtain ⟨A, c, e, _⟩ := h2.form; exact ⟨A, _, c, e⟩
  obtain ⟨vA1, vn1, vc1, rfl⟩ := hvf1
  obtain ⟨vA2, vn2, vc2, rfl⟩ := hvf2
  unfold planA
  clear h1 h2 hl1 hl2 hu1 hu2 hb1 hb2 hpb hqb hN hFA hFB
  go_enter Try.func24, Try.ntmps24
  go_wp2_with fail
  refine HQ.out.mono ?_
  rintro e w3 ⟨v, g, xs, rfl, hux, hlen, hint, hask, hb3⟩
  obtain ⟨A, c, rfl, _, _⟩ := id hint
  obtain ⟨p, q, rfl, hcall⟩ := hask.form
  have HINT := Lib.hid hint
  have HUX := Lib.hid hux
  have HC := Lib.hid hcall
  have HB3 := Lib.hid (HB2.out.trans (hb3.mono HB2.out.size))
  obtain ⟨n, hn⟩ : ∃ n, xs.length = n := ⟨_, rfl⟩
  rw [hn] at hlen HINT ⊢
  have HN := Lib.hid hn
  have hn2 : n ≤ 2000 := by omega
  have HO0 : Hid (w3.ownsRow w3.heap.size 3 1 (.slice none 0 0) (whoT mvB FA FB (xs.take 0)).length ((whoT mvB FA FB (xs.take 0)).map (Value.int .i64))) := Lib.hid (World.ownsRow_nil _ _ _ _)
  clear hux hint hask hcall hb3 hn hlen r0 r1 r2 q0 q1 q2 hw1 hw2 hP hQ
  go_wp2_with fail
  go_loopg [7, 20] n (fun gg s7 i wr => ∃ k : Nat, k ≤ n ∧ gg = n - k ∧ i = .int .i64 k ∧ Hid (Below w3.heap.size w3 wr) ∧ Hid (wr.ownsRow w3.heap.size 3 1 s7 (whoT mvB FA FB (xs.take k)).length ((whoT mvB FA FB (xs.take k)).map (Value.int .i64))))
  case atStart => exact ⟨0, Nat.zero_le _, by omega, rfl, Lib.hid (Below.refl _ _), HO0⟩
  case round =>
    obtain ⟨k, hk, hg, rfl, HBW, HO⟩ := hrel
    have HG := Lib.hid hg
    clear hg
    by_cases hlt : k < n
    · have hltz : (k : Int) < (n : Int) := by omega
      have hk0 : (0 : Int) ≤ (k : Int) := by omega
      obtain ⟨u, hu⟩ := exP_at (xs := xs) (k := k) (by rw [HN.out]; exact hlt)
      have hub := HUX.out.2.2 u (List.mem_of_getElem? hu)
      have HSU := Lib.hid (whoT_succ (hold := mvB) (F1 := FA) (F2 := FB) hu)
      have HLE := Lib.hid (whoT_le mvB FA FB xs k)
      obtain ⟨A', c', e1, _, h3⟩ := HINT.out.keep HBW.out
      injection e1 with e1 e2 e3
      subst e1
      obtain ⟨b, off, e4, hbl, hcell⟩ := h3 (by rw [HN.out]; omega)
      subst e4
      have x0 := hcell k u hu
      have HCU := Lib.hid (HC.out u wr HBW.out hub.1 hub.2)
      clear e2 e3 h3 hcell hu hub
      go_wp2_with fail
      refine HCU.out.mono ?_
      rintro e w4 ⟨y1, y2, rfl, py1, py2, hb4⟩
      have HK := Lib.hid (movedK_any y1 y2 (plF FA u) (plF FB u) w4 py1 py2)
      have HB4 := Lib.hid (HBW.out.trans (hb4.mono HBW.out.size))
      have HO4 := Lib.hid (own_below5 HO.out hb4)
      obtain ⟨B, hB⟩ : ∃ B, mvB (plF FA u) (plF FB u) = B := ⟨_, rfl⟩
      rw [hB] at HK HSU
      clear py1 py2 hb4 hB x0
      go_wp2_with fail
      refine HK.out.mono ?_
      rintro e w5 ⟨rfl, hb5⟩
      have HB5 := Lib.hid (HB4.out.trans (hb5.mono HB4.out.size))
      have HO5 := Lib.hid (own_below5 HO4.out hb5)
      clear hb5
      cases B with
      | false =>
        go_wp2_with fail
        go_roundg (n - (k + 1))
        case measure => have := HG.out; omega
        case rel => exact ⟨k + 1, by omega, rfl, by go_num, HB5, by rw [HSU.out]; exact HO5⟩
      | true =>
        have hsz := HB5.out.size
        go_wp2_with (at_builtin; refine wpList_append_own _ rfl _ _ 29 rfl w3.heap.size 3 i0 (.int .i64 0) 1 8 Try.underlying29 hi hz0 hz1 hz2 rfl (by decide) _ _ _ rfl (HO5.out.alloc _) ⟨w5.heap.size, 0, none⟩ 1 1 [.int .i64 u] rfl rfl ?c1 ?c2 ?c3 ?c4 ?c5 ?_)
        case c1 =>
          intro j u hj
          rcases j with _ | j
          · simpa [Addr.add] using hj
          · simp at hj
        case c2 => intro u hu; simp at hu; subst hu; rfl
        case c3 => have := HLE.out; unfold maxLen; omega
        case c4 => have := HLE.out; omega
        case c5 => simp; omega
        intro v9 w9 hown9 hgrow9 _
        have HB9 := Lib.hid ((HB5.out.alloc hsz _).trans (below_grown4 hgrow9 (by simp; omega) (own_base4 HO5.out)))
        have HO9 : Hid (w9.ownsRow w3.heap.size 3 1 v9 (whoT mvB FA FB (xs.take (k + 1))).length ((whoT mvB FA FB (xs.take (k + 1))).map (Value.int .i64))) := Lib.hid (by
          have h : whoT mvB FA FB (xs.take (k + 1)) = whoT mvB FA FB (xs.take k) ++ [u] := HSU.out
          rw [h, List.length_append, List.map_append]
          exact hown9)
        clear hown9 hgrow9 hsz
        go_wp2
        go_roundg (n - (k + 1))
        case measure => have := HG.out; omega
        case rel => exact ⟨k + 1, by omega, rfl, by go_num, HB9, HO9⟩
    · have hltz : ¬ (k : Int) < (n : Int) := by omega
      have HKN := Lib.hid (show k = n by omega)
      go_wp2_with fail
      go_ret
      have h := HO.out
      have e1 : xs.take k = xs := by rw [HKN.out, ← HN.out, List.take_length]
      rw [e1] at h
      refine ⟨xs, HUX.out, _, rfl, ints_of_own h ?_, HB3.out.trans (HBW.out.mono HB3.out.size)⟩
      have h9 := whoT_le mvB FA FB xs k
      rw [e1] at h9
      omega

set_option maxRecDepth 100000 in
set_option maxHeartbeats 4000000 in
theorem whoCame_any (f1 f2 : Int) (m1 m2 : Nat) (v1 v2 : Value) (la lb : List Pl) (w : World) (h1 : PlsAt w v1 la) (h2 : PlsAt w v2 lb) (hl1 : la.length ≤ 1000) (hl2 : lb.length ≤ 1000) (hu1 : ∀ x ∈ la, -9223372036854775808 ≤ x.u ∧ x.u ≤ 9223372036854775807) (hu2 : ∀ x ∈ lb, -9223372036854775808 ≤ x.u ∧ x.u ≤ 9223372036854775807) :
    Calls Try.prog 24 #[planA f1 m1 v1, planA f2 m2 v2, .func (.func 30) #[] #[]] w (RetWho cmB (idxF la) (idxF lb) w) := by
  obtain ⟨i0, hi, hz0, hz1, hz2⟩ := info_parts Try.infoInt
  obtain ⟨w1, P, hw1, hP, hPl, hb1, hpb⟩ := box_any w #[.int .i64 f1, .int .u32 m1, v1] 25
  obtain ⟨w2, Q, hw2, hQ, hQl, hb2, hqb⟩ := box_any w1 #[.int .i64 f2, .int .u32 m2, v2] 25
  have HB2 := Lib.hid (hb1.trans (hb2.mono hb1.size))
  obtain ⟨r0, r1, r2⟩ := three_heads (keep_block hpb hb2)
  obtain ⟨q0, q1, q2⟩ := three_heads hqb
  have HQ := Lib.hid (query_any f1 f2 m1 m2 v1 v2 la lb w2 (h1.keep HB2.out) (h2.keep HB2.out) hl1 hl2 hu1 hu2)
  unfold planA RetQ at HQ
  obtain ⟨N, hN⟩ : ∃ N, la.length + lb.length = N := ⟨_, rfl⟩
  have hN2 : N ≤ 2000 := by omega
  rw [hN] at HQ
  obtain ⟨FA, hFA⟩ : ∃ F, idxF la = F := ⟨_, rfl⟩
  obtain ⟨FB, hFB⟩ : ∃ F, idxF lb = F := ⟨_, rfl⟩
  rw [hFA, hFB] at HQ ⊢
  have hvf1 : ∃ A n c, v1 = .slice A n c := by obtain ⟨A, c, e, _⟩ := h1.form; exact ⟨A, _, c, e⟩
  have hvf2 : ∃ A n c, v2 = .slice A n c := by obtain ⟨A, c, e, _⟩ := h2.form; exact ⟨A, _, c, e⟩
  obtain ⟨vA1, vn1, vc1, rfl⟩ := hvf1
  obtain ⟨vA2, vn2, vc2, rfl⟩ := hvf2
  unfold planA
  clear h1 h2 hl1 hl2 hu1 hu2 hb1 hb2 hpb hqb hN hFA hFB
  go_enter Try.func24, Try.ntmps24
  go_wp2_with fail
  refine HQ.out.mono ?_
  rintro e w3 ⟨v, g, xs, rfl, hux, hlen, hint, hask, hb3⟩
  obtain ⟨A, c, rfl, _, _⟩ := id hint
  obtain ⟨p, q, rfl, hcall⟩ := hask.form
  have HINT := Lib.hid hint
  have HUX := Lib.hid hux
  have HC := Lib.hid hcall
  have HB3 := Lib.hid (HB2.out.trans (hb3.mono HB2.out.size))
  obtain ⟨n, hn⟩ : ∃ n, xs.length = n := ⟨_, rfl⟩
  rw [hn] at hlen HINT ⊢
  have HN := Lib.hid hn
  have hn2 : n ≤ 2000 := by omega
  have HO0 : Hid (w3.ownsRow w3.heap.size 3 1 (.slice none 0 0) (whoT cmB FA FB (xs.take 0)).length ((whoT cmB FA FB (xs.take 0)).map (Value.int .i64))) := Lib.hid (World.ownsRow_nil _ _ _ _)
  clear hux hint hask hcall hb3 hn hlen r0 r1 r2 q0 q1 q2 hw1 hw2 hP hQ
  go_wp2_with fail
  go_loopg [7, 20] n (fun gg s7 i wr => ∃ k : Nat, k ≤ n ∧ gg = n - k ∧ i = .int .i64 k ∧ Hid (Below w3.heap.size w3 wr) ∧ Hid (wr.ownsRow w3.heap.size 3 1 s7 (whoT cmB FA FB (xs.take k)).length ((whoT cmB FA FB (xs.take k)).map (Value.int .i64))))
  case atStart => exact ⟨0, Nat.zero_le _, by omega, rfl, Lib.hid (Below.refl _ _), HO0⟩
  case round =>
    obtain ⟨k, hk, hg, rfl, HBW, HO⟩ := hrel
    have HG := Lib.hid hg
    clear hg
    by_cases hlt : k < n
    · have hltz : (k : Int) < (n : Int) := by omega
      have hk0 : (0 : Int) ≤ (k : Int) := by omega
      obtain ⟨u, hu⟩ := exP_at (xs := xs) (k := k) (by rw [HN.out]; exact hlt)
      have hub := HUX.out.2.2 u (List.mem_of_getElem? hu)
      have HSU := Lib.hid (whoT_succ (hold := cmB) (F1 := FA) (F2 := FB) hu)
      have HLE := Lib.hid (whoT_le cmB FA FB xs k)
      obtain ⟨A', c', e1, _, h3⟩ := HINT.out.keep HBW.out
      injection e1 with e1 e2 e3
      subst e1
      obtain ⟨b, off, e4, hbl, hcell⟩ := h3 (by rw [HN.out]; omega)
      subst e4
      have x0 := hcell k u hu
      have HCU := Lib.hid (HC.out u wr HBW.out hub.1 hub.2)
      clear e2 e3 h3 hcell hu hub
      go_wp2_with fail
      refine HCU.out.mono ?_
      rintro e w4 ⟨y1, y2, rfl, py1, py2, hb4⟩
      have HK := Lib.hid (cameK_any y1 y2 (plF FA u) (plF FB u) w4 py1 py2)
      have HB4 := Lib.hid (HBW.out.trans (hb4.mono HBW.out.size))
      have HO4 := Lib.hid (own_below5 HO.out hb4)
      obtain ⟨B, hB⟩ : ∃ B, cmB (plF FA u) (plF FB u) = B := ⟨_, rfl⟩
      rw [hB] at HK HSU
      clear py1 py2 hb4 hB x0
      go_wp2_with fail
      refine HK.out.mono ?_
      rintro e w5 ⟨rfl, hb5⟩
      have HB5 := Lib.hid (HB4.out.trans (hb5.mono HB4.out.size))
      have HO5 := Lib.hid (own_below5 HO4.out hb5)
      clear hb5
      cases B with
      | false =>
        go_wp2_with fail
        go_roundg (n - (k + 1))
        case measure => have := HG.out; omega
        case rel => exact ⟨k + 1, by omega, rfl, by go_num, HB5, by rw [HSU.out]; exact HO5⟩
      | true =>
        have hsz := HB5.out.size
        go_wp2_with (at_builtin; refine wpList_append_own _ rfl _ _ 29 rfl w3.heap.size 3 i0 (.int .i64 0) 1 8 Try.underlying29 hi hz0 hz1 hz2 rfl (by decide) _ _ _ rfl (HO5.out.alloc _) ⟨w5.heap.size, 0, none⟩ 1 1 [.int .i64 u] rfl rfl ?c1 ?c2 ?c3 ?c4 ?c5 ?_)
        case c1 =>
          intro j u hj
          rcases j with _ | j
          · simpa [Addr.add] using hj
          · simp at hj
        case c2 => intro u hu; simp at hu; subst hu; rfl
        case c3 => have := HLE.out; unfold maxLen; omega
        case c4 => have := HLE.out; omega
        case c5 => simp; omega
        intro v9 w9 hown9 hgrow9 _
        have HB9 := Lib.hid ((HB5.out.alloc hsz _).trans (below_grown4 hgrow9 (by simp; omega) (own_base4 HO5.out)))
        have HO9 : Hid (w9.ownsRow w3.heap.size 3 1 v9 (whoT cmB FA FB (xs.take (k + 1))).length ((whoT cmB FA FB (xs.take (k + 1))).map (Value.int .i64))) := Lib.hid (by
          have h : whoT cmB FA FB (xs.take (k + 1)) = whoT cmB FA FB (xs.take k) ++ [u] := HSU.out
          rw [h, List.length_append, List.map_append]
          exact hown9)
        clear hown9 hgrow9 hsz
        go_wp2
        go_roundg (n - (k + 1))
        case measure => have := HG.out; omega
        case rel => exact ⟨k + 1, by omega, rfl, by go_num, HB9, HO9⟩
    · have hltz : ¬ (k : Int) < (n : Int) := by omega
      have HKN := Lib.hid (show k = n by omega)
      go_wp2_with fail
      go_ret
      have h := HO.out
      have e1 : xs.take k = xs := by rw [HKN.out, ← HN.out, List.take_length]
      rw [e1] at h
      refine ⟨xs, HUX.out, _, rfl, ints_of_own h ?_, HB3.out.trans (HBW.out.mono HB3.out.size)⟩
      have h9 := whoT_le cmB FA FB xs k
      rw [e1] at h9
      omega

set_option maxRecDepth 100000 in
set_option maxHeartbeats 4000000 in
theorem whoResized_any (f1 f2 : Int) (m1 m2 : Nat) (v1 v2 : Value) (la lb : List Pl) (w : World) (h1 : PlsAt w v1 la) (h2 : PlsAt w v2 lb) (hl1 : la.length ≤ 1000) (hl2 : lb.length ≤ 1000) (hu1 : ∀ x ∈ la, -9223372036854775808 ≤ x.u ∧ x.u ≤ 9223372036854775807) (hu2 : ∀ x ∈ lb, -9223372036854775808 ≤ x.u ∧ x.u ≤ 9223372036854775807) :
    Calls Try.prog 24 #[planA f1 m1 v1, planA f2 m2 v2, .func (.func 31) #[] #[]] w (RetWho rsB (idxF la) (idxF lb) w) := by
  obtain ⟨i0, hi, hz0, hz1, hz2⟩ := info_parts Try.infoInt
  obtain ⟨w1, P, hw1, hP, hPl, hb1, hpb⟩ := box_any w #[.int .i64 f1, .int .u32 m1, v1] 25
  obtain ⟨w2, Q, hw2, hQ, hQl, hb2, hqb⟩ := box_any w1 #[.int .i64 f2, .int .u32 m2, v2] 25
  have HB2 := Lib.hid (hb1.trans (hb2.mono hb1.size))
  obtain ⟨r0, r1, r2⟩ := three_heads (keep_block hpb hb2)
  obtain ⟨q0, q1, q2⟩ := three_heads hqb
  have HQ := Lib.hid (query_any f1 f2 m1 m2 v1 v2 la lb w2 (h1.keep HB2.out) (h2.keep HB2.out) hl1 hl2 hu1 hu2)
  unfold planA RetQ at HQ
  obtain ⟨N, hN⟩ : ∃ N, la.length + lb.length = N := ⟨_, rfl⟩
  have hN2 : N ≤ 2000 := by omega
  rw [hN] at HQ
  obtain ⟨FA, hFA⟩ : ∃ F, idxF la = F := ⟨_, rfl⟩
  obtain ⟨FB, hFB⟩ : ∃ F, idxF lb = F := ⟨_, rfl⟩
  rw [hFA, hFB] at HQ ⊢
  have hvf1 : ∃ A n c, v1 = .slice A n c := by obtain ⟨A, c, e, _⟩ := h1.form; exact ⟨A, _, c, e⟩
  have hvf2 : ∃ A n c, v2 = .slice A n c := by obtain ⟨A, c, e, _⟩ := h2.form; exact ⟨A, _, c, e⟩
  obtain ⟨vA1, vn1, vc1, rfl⟩ := hvf1
  obtain ⟨vA2, vn2, vc2, rfl⟩ := hvf2
  unfold planA
  clear h1 h2 hl1 hl2 hu1 hu2 hb1 hb2 hpb hqb hN hFA hFB
  go_enter Try.func24, Try.ntmps24
  go_wp2_with fail
  refine HQ.out.mono ?_
  rintro e w3 ⟨v, g, xs, rfl, hux, hlen, hint, hask, hb3⟩
  obtain ⟨A, c, rfl, _, _⟩ := id hint
  obtain ⟨p, q, rfl, hcall⟩ := hask.form
  have HINT := Lib.hid hint
  have HUX := Lib.hid hux
  have HC := Lib.hid hcall
  have HB3 := Lib.hid (HB2.out.trans (hb3.mono HB2.out.size))
  obtain ⟨n, hn⟩ : ∃ n, xs.length = n := ⟨_, rfl⟩
  rw [hn] at hlen HINT ⊢
  have HN := Lib.hid hn
  have hn2 : n ≤ 2000 := by omega
  have HO0 : Hid (w3.ownsRow w3.heap.size 3 1 (.slice none 0 0) (whoT rsB FA FB (xs.take 0)).length ((whoT rsB FA FB (xs.take 0)).map (Value.int .i64))) := Lib.hid (World.ownsRow_nil _ _ _ _)
  clear hux hint hask hcall hb3 hn hlen r0 r1 r2 q0 q1 q2 hw1 hw2 hP hQ
  go_wp2_with fail
  go_loopg [7, 20] n (fun gg s7 i wr => ∃ k : Nat, k ≤ n ∧ gg = n - k ∧ i = .int .i64 k ∧ Hid (Below w3.heap.size w3 wr) ∧ Hid (wr.ownsRow w3.heap.size 3 1 s7 (whoT rsB FA FB (xs.take k)).length ((whoT rsB FA FB (xs.take k)).map (Value.int .i64))))
  case atStart => exact ⟨0, Nat.zero_le _, by omega, rfl, Lib.hid (Below.refl _ _), HO0⟩
  case round =>
    obtain ⟨k, hk, hg, rfl, HBW, HO⟩ := hrel
    have HG := Lib.hid hg
    clear hg
    by_cases hlt : k < n
    · have hltz : (k : Int) < (n : Int) := by omega
      have hk0 : (0 : Int) ≤ (k : Int) := by omega
      obtain ⟨u, hu⟩ := exP_at (xs := xs) (k := k) (by rw [HN.out]; exact hlt)
      have hub := HUX.out.2.2 u (List.mem_of_getElem? hu)
      have HSU := Lib.hid (whoT_succ (hold := rsB) (F1 := FA) (F2 := FB) hu)
      have HLE := Lib.hid (whoT_le rsB FA FB xs k)
      obtain ⟨A', c', e1, _, h3⟩ := HINT.out.keep HBW.out
      injection e1 with e1 e2 e3
      subst e1
      obtain ⟨b, off, e4, hbl, hcell⟩ := h3 (by rw [HN.out]; omega)
      subst e4
      have x0 := hcell k u hu
      have HCU := Lib.hid (HC.out u wr HBW.out hub.1 hub.2)
      clear e2 e3 h3 hcell hu hub
      go_wp2_with fail
      refine HCU.out.mono ?_
      rintro e w4 ⟨y1, y2, rfl, py1, py2, hb4⟩
      have HK := Lib.hid (resizedK_any y1 y2 (plF FA u) (plF FB u) w4 py1 py2)
      have HB4 := Lib.hid (HBW.out.trans (hb4.mono HBW.out.size))
      have HO4 := Lib.hid (own_below5 HO.out hb4)
      obtain ⟨B, hB⟩ : ∃ B, rsB (plF FA u) (plF FB u) = B := ⟨_, rfl⟩
      rw [hB] at HK HSU
      clear py1 py2 hb4 hB x0
      go_wp2_with fail
      refine HK.out.mono ?_
      rintro e w5 ⟨rfl, hb5⟩
      have HB5 := Lib.hid (HB4.out.trans (hb5.mono HB4.out.size))
      have HO5 := Lib.hid (own_below5 HO4.out hb5)
      clear hb5
      cases B with
      | false =>
        go_wp2_with fail
        go_roundg (n - (k + 1))
        case measure => have := HG.out; omega
        case rel => exact ⟨k + 1, by omega, rfl, by go_num, HB5, by rw [HSU.out]; exact HO5⟩
      | true =>
        have hsz := HB5.out.size
        go_wp2_with (at_builtin; refine wpList_append_own _ rfl _ _ 29 rfl w3.heap.size 3 i0 (.int .i64 0) 1 8 Try.underlying29 hi hz0 hz1 hz2 rfl (by decide) _ _ _ rfl (HO5.out.alloc _) ⟨w5.heap.size, 0, none⟩ 1 1 [.int .i64 u] rfl rfl ?c1 ?c2 ?c3 ?c4 ?c5 ?_)
        case c1 =>
          intro j u hj
          rcases j with _ | j
          · simpa [Addr.add] using hj
          · simp at hj
        case c2 => intro u hu; simp at hu; subst hu; rfl
        case c3 => have := HLE.out; unfold maxLen; omega
        case c4 => have := HLE.out; omega
        case c5 => simp; omega
        intro v9 w9 hown9 hgrow9 _
        have HB9 := Lib.hid ((HB5.out.alloc hsz _).trans (below_grown4 hgrow9 (by simp; omega) (own_base4 HO5.out)))
        have HO9 : Hid (w9.ownsRow w3.heap.size 3 1 v9 (whoT rsB FA FB (xs.take (k + 1))).length ((whoT rsB FA FB (xs.take (k + 1))).map (Value.int .i64))) := Lib.hid (by
          have h : whoT rsB FA FB (xs.take (k + 1)) = whoT rsB FA FB (xs.take k) ++ [u] := HSU.out
          rw [h, List.length_append, List.map_append]
          exact hown9)
        clear hown9 hgrow9 hsz
        go_wp2
        go_roundg (n - (k + 1))
        case measure => have := HG.out; omega
        case rel => exact ⟨k + 1, by omega, rfl, by go_num, HB9, HO9⟩
    · have hltz : ¬ (k : Int) < (n : Int) := by omega
      have HKN := Lib.hid (show k = n by omega)
      go_wp2_with fail
      go_ret
      have h := HO.out
      have e1 : xs.take k = xs := by rw [HKN.out, ← HN.out, List.take_length]
      rw [e1] at h
      refine ⟨xs, HUX.out, _, rfl, ints_of_own h ?_, HB3.out.trans (HBW.out.mono HB3.out.size)⟩
      have h9 := whoT_le rsB FA FB xs k
      rw [e1] at h9
      omega
end Go.Proofs.Ytincbilobmhgeaa

/-
  What changes between a plan and itself, and the lists of two plans the other way round.
  Conditions: none.
-/
set_option linter.unusedVariables false
namespace Go.Proofs.Ytincbilobmhgeaa

theorem movedB_self (x : Pl) : movedB x x = false := by
  cases h : movedB x x with
  | false => rfl
  | true =>
    obtain ⟨c, _, h | ⟨t, _, h⟩⟩ := movedB_iff.mp h <;> exact absurd rfl h
theorem movedB_comm (x y : Pl) : movedB x y = movedB y x := by
  rw [Bool.eq_iff_iff, movedB_iff, movedB_iff]
  constructor <;> rintro ⟨c, hc, h | ⟨t, ht, h⟩⟩
  · exact ⟨c, hc, .inl h.symm⟩
  · exact ⟨c, hc, .inr ⟨t, ht, h.symm⟩⟩
  · exact ⟨c, hc, .inl h.symm⟩
  · exact ⟨c, hc, .inr ⟨t, ht, h.symm⟩⟩
theorem listU_nil {k : Nat} {la lb : List Pl} (h : ∀ u, kindB k la lb u = true → ¬ (inU la u = true ∨ inU lb u = true)) : listU k la lb = [] := by
  rw [List.eq_nil_iff_forall_not_mem]
  intro u hu
  obtain ⟨_, h1, h2⟩ := mem_listU.mp hu
  exact h u h2 h1
theorem listU_self0 (l : List Pl) : listU 0 l l = [] := listU_nil fun u h _ => by
  simp [kindB, movedB_self] at h
theorem listU_self4 (l : List Pl) : listU 4 l l = [] := listU_nil fun u h h2 => by
  simp [kindB] at h
theorem listU_comm0 (la lb : List Pl) : listU 0 la lb = listU 0 lb la := by
  unfold listU
  rw [unitsU_comm]
  refine List.filter_congr fun u _ => ?_
  simp only [kindB]
  rw [movedB_comm, Bool.and_comm (inU la u)]
theorem listU_comm12 (la lb : List Pl) : listU 1 la lb = listU 2 lb la := by
  unfold listU
  rw [unitsU_comm]
  exact List.filter_congr fun u _ => rfl
theorem sum_zero : ∀ {l : List Nat}, (∀ x ∈ l, x = 0) → l.sum = 0
  | [], _ => rfl
  | x :: l, h => by
    rw [List.sum_cons, h x List.mem_cons_self, sum_zero fun y hy => h y (List.mem_cons_of_mem _ hy)]
theorem shiftT_self (l : List Pl) : shiftT l l = 0 := by
  unfold shiftT
  refine sum_zero fun x hx => ?_
  obtain ⟨u, _, rfl⟩ := List.mem_map.mp hx
  exact shiftU_self _
end Go.Proofs.Ytincbilobmhgeaa

/-
  Has a plan not too much?
  Conditions: the slice reads as places.
-/
set_option linter.unusedVariables false
namespace Go.Proofs.Ytincbilobmhgeaa
open Go.RowKit

/-- What Light tells. -/
def Lit (l : List Pl) : Prop := (∀ (k : Nat) (x : Pl), k < 300 → l[k]? = some x → x.ps.length ≤ 20) ∧ l.length ≤ 60
theorem Lit.light {l : List Pl} (h : Lit l) (ho : ∀ x ∈ l, PlOk x) : LightL l :=
  ⟨by have := h.2; omega, fun x hx => ⟨ho x hx, by
    obtain ⟨k, hk⟩ := List.mem_iff_getElem?.1 hx
    have h1 := (List.getElem?_eq_some_iff.1 hk).1
    have h2 := h.2
    have := h.1 k x (by omega) hk
    omega⟩⟩

set_option maxRecDepth 100000 in
set_option maxHeartbeats 2000000 in
theorem light_any (f : Int) (m : Nat) (v : Value) (l : List Pl) (w : World) (h : PlsAt w v l) :
    Calls Try.prog 22 #[planA f m v] w (RetIff (Lit l) w) := by
  obtain ⟨A, cA, rfl, hlc, hcm⟩ := h.form
  have HL := Lib.hid h
  obtain ⟨w1, P, hw1, hP, hPl, hb1, hbox⟩ := box_any w #[.int .i64 f, .int .u32 m, .slice A l.length cA] 25
  obtain ⟨n, hn⟩ : ∃ n, l.length = n := ⟨_, rfl⟩
  rw [hn] at HL hlc hw1 hbox ⊢
  have HN := Lib.hid hn
  have HB1 := Lib.hid hb1
  have HBOX := Lib.hid hbox
  obtain ⟨r0, r1, r2⟩ := three_heads hbox
  clear h hn hb1 hbox
  unfold planA
  go_enter Try.func22, Try.ntmps22
  go_wp2_with fail
  clear hw1 hP r0 r1 r2
  go_loopg [3] n (fun gg s3 wr => ∃ k : Nat, k ≤ n ∧ gg = n - k ∧ s3 = .int .i64 k ∧ Hid (∀ (i : Nat) (x : Pl), i < k → l[i]? = some x → x.ps.length ≤ 20) ∧ k ≤ 300 ∧ Below w1.heap.size w1 wr)
  case atStart => exact ⟨0, Nat.zero_le _, by omega, rfl, fun i x hi => absurd hi (by omega), by omega, Below.refl _ w1⟩
  case round =>
    obtain ⟨k, hk, hg, rfl, HA, hk3, hbw⟩ := hrel
    have HBW := Lib.hid hbw
    have HB := Lib.hid (HB1.out.trans (hbw.mono HB1.out.size))
    have HG := Lib.hid hg
    have hPl2 : P < wr.heap.size := Nat.lt_of_lt_of_le hPl hbw.size
    have HBX := Lib.hid ((hbw.block P hPl).trans HBOX.out)
    obtain ⟨r0, r1, r2⟩ := three_heads HBX.out
    have HLR := Lib.hid (HL.out.keep HB.out)
    clear hbw hg
    by_cases hlt : k < n
    · by_cases hl3 : k < 300
      · have hl3z : (k : Int) < 300 := by omega
        have hk0 : (0 : Int) ≤ (k : Int) := by omega
        have hltz : (k : Int) < (n : Int) := by omega
        obtain ⟨x, hx⟩ := exP_at (xs := l) (k := k) (by rw [HN.out]; exact hlt)
        obtain ⟨b, off, B, d, hA, hbl, _, ⟨c0, c1, c2, c3⟩, hps⟩ := HLR.out.at_ hx
        subst hA
        simp only at c0 c1 c2 c3
        have HX := Lib.hid hx
        have HPS := Lib.hid hps
        clear hx hps
        by_cases hp : x.ps.length ≤ 20
        · have hpz : decide ((20 : Int) < (x.ps.length : Int)) = false := decide_eq_false (by omega)
          have HE : Hid (∀ (i : Nat) (z : Pl), i < k + 1 → l[i]? = some z → z.ps.length ≤ 20) := Lib.hid (fun i z hi hz => by
            rcases Nat.lt_succ_iff_lt_or_eq.1 hi with h | rfl
            · exact HA i z h hz
            · rw [HX.out] at hz
              cases hz
              exact hp)
          go_wp2_with fail
          go_roundg (n - (k + 1))
          case measure => have := HG.out; omega
          case rel => exact ⟨k + 1, by omega, rfl, by go_num, HE.out, by omega, HBW.out⟩
        · have hpz : (20 : Int) < (x.ps.length : Int) := by omega
          have HNO := Lib.hid (show ¬ Lit l from fun h => hp (h.1 k x hl3 HX.out))
          go_wp2_with fail
          go_ret
          exact RetIff.no HNO.out HB.out
      · have hltz : (k : Int) < (n : Int) := by omega
        have hl3z : ¬ (k : Int) < 300 := by omega
        have hnz : decide ((n : Int) ≤ 60) = false := decide_eq_false (by omega)
        have HNO := Lib.hid (show ¬ Lit l from fun h => by have := h.2; have := HN.out; omega)
        go_wp2_with fail
        go_ret
        exact RetIff.no HNO.out HB.out
    · have hltz : ¬ (k : Int) < (n : Int) := by omega
      by_cases hn6 : n ≤ 60
      · have hnz : (n : Int) ≤ 60 := by omega
        have HYE := Lib.hid (show Lit l from ⟨fun i x _ hx => HA i x (by have := (List.getElem?_eq_some_iff.1 hx).1; have := HN.out; omega) hx, by rw [HN.out]; exact hn6⟩)
        go_wp2_with fail
        go_ret
        exact RetIff.yes HYE.out HB.out
      · have hnz : decide ((n : Int) ≤ 60) = false := decide_eq_false (by omega)
        have HNO := Lib.hid (show ¬ Lit l from fun h => by have := h.2; have := HN.out; omega)
        go_wp2_with fail
        go_ret
        exact RetIff.no HNO.out HB.out
end Go.Proofs.Ytincbilobmhgeaa

/-
  The document's apart: at no tick of a core are there two.
  Conditions: the slice reads as places; the numbers are of their kinds.
-/
set_option linter.unusedVariables false
namespace Go.Proofs.Ytincbilobmhgeaa
open Go.RowKit Go.Sort

def ApartD (q : List Pc) : Prop := ∀ c : Nat, c < 16 → ∀ t, t < 64 → nOn q (c : Int) t ≤ 1
theorem pcs_len : ∀ (l : List Pl), (∀ x ∈ l, x.ps.length ≤ 1000) → (pcsOf l).length ≤ 1000 * l.length
  | [], _ => Nat.le_refl _
  | x :: l, h => by
    have h1 := h x (by simp)
    have h2 := pcs_len l fun y hy => h y (by simp [hy])
    rw [pcsOf_cons, List.length_append, List.length_cons]
    omega
theorem nOn_bound {l : List Pl} (hL : LightL l) (k : Nat) (c : Int) (t : Nat) : nOn (pcsOf (l.take k)) c t ≤ 1000000 := by
  have h1 := pcs_len (l.take k) fun x hx => (hL.ok x (List.mem_of_mem_take hx)).2
  have h2 := hL.len
  have h3 : nOn (pcsOf (l.take k)) c t ≤ (pcsOf (l.take k)).length := List.countP_le_length
  rw [List.length_take] at h1
  omega

set_option maxRecDepth 100000 in
set_option maxHeartbeats 4000000 in
theorem apart_any (f : Int) (m : Nat) (v : Value) (l : List Pl) (w : World) (h : PlsAt w v l) (hL : LightL l) :
    Calls Try.prog 40 #[planA f m v] w (RetIff (ApartD (pcsOf l)) w) := by
  have HO := Lib.hid hL.ok
  have HNB := Lib.hid (fun k c t => nOn_bound hL k c t)
  have hl : l.length ≤ 1000 := by have := hL.len; omega
  clear hL
  obtain ⟨A, cA, rfl, hlc, hcm⟩ := h.form
  have HL := Lib.hid h
  obtain ⟨w1, P, hw1, hP, hPl, hb1, hbox⟩ := box_any w #[.int .i64 f, .int .u32 m, .slice A l.length cA] 25
  obtain ⟨n, hn⟩ : ∃ n, l.length = n := ⟨_, rfl⟩
  rw [hn] at HL hlc hl hw1 hbox ⊢
  have HN := Lib.hid hn
  have HB1 := Lib.hid hb1
  have HBOX := Lib.hid hbox
  obtain ⟨r0, r1, r2⟩ := three_heads hbox
  clear h hn hb1 hbox
  unfold planA
  go_enter Try.func40, Try.ntmps40
  go_wp2_with fail
  clear hw1 hP r0 r1 r2
  go_loopg [3, 4, 5, 6] 16 (fun gg s3 _ _ _ wr => ∃ c : Nat, c ≤ 16 ∧ gg = 16 - c ∧ s3 = .int .i64 c ∧ Hid (∀ c' : Nat, c' < c → ∀ t, t < 64 → nOn (pcsOf l) (c' : Int) t ≤ 1) ∧ Below w1.heap.size w1 wr)
  case atStart => exact ⟨0, Nat.zero_le _, by omega, rfl, fun c' h => absurd h (Nat.not_lt_zero _), Below.refl _ _⟩
  case round =>
    obtain ⟨c, hc, hgc, rfl, HC, hbc⟩ := hrel
    have HGC := Lib.hid hgc
    have HBC := Lib.hid hbc
    obtain ⟨wo, rfl⟩ : ∃ wo : World, wo = wr := ⟨_, rfl⟩
    clear hgc hbc
    by_cases hlc : c < 16
    · have hlcz : (c : Int) < 16 := by omega
      go_wp2_with fail
      go_loopg [4, 5, 6] 64 (fun gg s4 _ _ wr => ∃ t : Nat, t ≤ 64 ∧ gg = 64 - t ∧ s4 = .int .i64 t ∧ Hid (∀ t', t' < t → nOn (pcsOf l) (c : Int) t' ≤ 1) ∧ Below w1.heap.size w1 wr)
      case atStart => exact ⟨0, Nat.zero_le _, by omega, rfl, fun t' h => absurd h (Nat.not_lt_zero _), HBC.out⟩
      case round =>
        obtain ⟨t, ht, hgt, rfl, HT, hbt⟩ := hrel
        have HGT := Lib.hid hgt
        have HBT := Lib.hid hbt
        obtain ⟨wp, rfl⟩ : ∃ wp : World, wp = wr := ⟨_, rfl⟩
        clear hgt hbt
        by_cases hlT : t < 64
        · have hlTz : (t : Int) < 64 := by omega
          go_wp2_with fail
          go_loopg [5, 6] n (fun gg s5 s6 wr => ∃ k q : Nat, k ≤ n ∧ gg = n - k ∧ s6 = .int .i64 k ∧ s5 = .int .i64 q ∧ Hid (q = nOn (pcsOf (l.take k)) (c : Int) t) ∧ Below w1.heap.size w1 wr)
          case atStart => exact ⟨0, 0, Nat.zero_le _, by omega, rfl, rfl, rfl, HBT.out⟩
          case round =>
            obtain ⟨k, q, hk, hg, rfl, rfl, HQ, hbw⟩ := hrel
            have hqb : q ≤ 1000000 := by rw [HQ]; exact HNB.out _ _ _
            have HBW := Lib.hid hbw
            have HB := Lib.hid (HB1.out.trans (hbw.mono HB1.out.size))
            have HG := Lib.hid hg
            have hPl2 : P < wr.heap.size := Nat.lt_of_lt_of_le hPl hbw.size
            have HBX := Lib.hid ((hbw.block P hPl).trans HBOX.out)
            obtain ⟨r0, r1, r2⟩ := three_heads HBX.out
            have HLR := Lib.hid (HL.out.keep HB.out)
            clear hbw hg
            by_cases hlt : k < n
            · have hk0 : (0 : Int) ≤ (k : Int) := by omega
              have hltz : (k : Int) < (n : Int) := by omega
              obtain ⟨x, hx⟩ := exP_at (xs := l) (k := k) (by rw [HN.out]; exact hlt)
              obtain ⟨b, off, B, d, hA, hbl, _, ⟨c0, c1, c2, c3⟩, hps⟩ := HLR.out.at_ hx
              subst hA
              simp only at c0 c1 c2 c3
              have HX := Lib.hid hx
              have HPS := Lib.hid hps
              clear hx hps
              have hxo := HO.out x (List.mem_of_getElem? HX.out)
              have HAT := Lib.hid (at_any (.slice B x.ps.length d) x (c : Int) t wr HPS.out.any hxo.2 hxo.1.2.2.2 hlT)
              rw [nAt_on (by omega)] at HAT
              unfold plA at HAT
              have hzb : nOn x.ps (c : Int) t ≤ 1000 := Nat.le_trans List.countP_le_length hxo.2
              have HPT := Lib.hid (pcs_take HX.out)
              generalize hz : nOn x.ps (c : Int) t = z at *
              have HQ2 : Hid (q + z = nOn (pcsOf (l.take (k + 1))) (c : Int) t) := by
                show _ = _
                rw [HPT.out, nOn_append, hz, ← HQ]
              clear hz hxo
              go_wp2_with fail
              refine HAT.out.mono ?_
              rintro e w3 ⟨rfl, hb3⟩
              have HB3 := Lib.hid (HBW.out.trans (hb3.mono HBW.out.size))
              clear hb3
              go_wp2_with fail
              go_roundg (n - (k + 1))
              case measure => have := HG.out; omega
              case rel => exact ⟨k + 1, q + z, by omega, rfl, by go_num, by go_num, HQ2, HB3.out⟩
            · have hltz : ¬ (k : Int) < (n : Int) := by omega
              have HQE : Hid (q = nOn (pcsOf l) (c : Int) t) := by
                have h : q = nOn (pcsOf (l.take k)) (c : Int) t := HQ
                rwa [List.take_of_length_le (by rw [HN.out]; omega)] at h
              by_cases hq1 : 1 < q
              · have hq2 : (1 : Int) < (q : Int) := by omega
                have HNO := Lib.hid (show ¬ ApartD (pcsOf l) from fun h => by have := h c hlc t hlT; rw [← HQE] at this; omega)
                go_wp2_with fail
                go_ret
                exact RetIff.no HNO.out HB.out
              · have hq2 : decide ((1 : Int) < (q : Int)) = false := decide_eq_false (by omega)
                have hq3 : decide (1 < q) = false := decide_eq_false hq1
                have HTN : Hid (∀ t', t' < t + 1 → nOn (pcsOf l) (c : Int) t' ≤ 1) := fun t' h => by
                  by_cases e : t' = t
                  · subst e; rw [← HQE]; omega
                  · exact HT t' (by omega)
                go_wp2_with fail
                go_roundg (64 - (t + 1))
                case measure => have := HGT.out; omega
                case rel => exact ⟨t + 1, by omega, rfl, by go_num, HTN, HBW.out⟩
        · have hlTz : ¬ (t : Int) < 64 := by omega
          have HCN : Hid (∀ c' : Nat, c' < c + 1 → ∀ t, t < 64 → nOn (pcsOf l) (c' : Int) t ≤ 1) := fun c' h t' ht' => by
            by_cases e : c' = c
            · subst e; exact HT t' (by omega)
            · exact HC c' (by omega) t' ht'
          go_wp2_with fail
          go_roundg (16 - (c + 1))
          case measure => have := HGC.out; omega
          case rel => exact ⟨c + 1, by omega, rfl, by go_num, HCN, HBT.out⟩
    · have hlcz : ¬ (c : Int) < 16 := by omega
      have HYE := Lib.hid (show ApartD (pcsOf l) from fun c' h => HC c' (by omega))
      have HBE := Lib.hid (HB1.out.trans (HBC.out.mono HB1.out.size))
      go_wp2
      go_ret
      exact RetIff.yes HYE.out HBE.out
end Go.Proofs.Ytincbilobmhgeaa

/-
  Units: Unit, Kind, the document's Is and Group; a sum, or that it runs over.
  Conditions: the arguments are ints.
-/
set_option linter.unusedVariables false
namespace Go.Proofs.Ytincbilobmhgeaa
open Go.RowKit

theorem and_dec (p q : Prop) [Decidable p] [Decidable q] : (decide p && decide q) = decide (p ∧ q) := by simp

/-- What Unit answers: the unit (0: none), the error. -/
def unitU (id : Int) (g : Bool) : Int := if g then (if isGroupB id then id + 1000 else 0) else (if isTaskB id then id else 0)
def unitE (id : Int) (g : Bool) : Int := if g then (if isGroupB id then 0 else 20) else (if isTaskB id then 0 else 20)
/-- What Kind answers. -/
def kindI (u : Int) : Int := if isTaskB u then u else if isU u then u - 1000 else 0
def kindG (u : Int) : Bool := !isTaskB u && isU u
theorem isU_task {u : Int} (h : isTaskB u = true) : isU u = true := by unfold isTaskB at h; unfold isU; rw [h]; rfl
theorem group_wrap {u : Int} (h1 : -9223372036854775808 ≤ u) (h2 : u ≤ 9223372036854775807) (ht : isTaskB u = false) : isGroupB (wrap64 (u - 1000)) = isU u := by
  unfold isTaskB at ht
  unfold isGroupB isU
  rw [ht, Bool.false_or]
  unfold wrap64
  rw [Bool.eq_iff_iff]
  simp
  omega
theorem is_any (u : Int) (W : World) : Calls Try.prog 55 #[.int .i64 u] W (Ret (.bool (isU u)) W) := by
  obtain ⟨r, hr⟩ : ∃ r, isU u = r := ⟨_, rfl⟩
  rw [hr]
  by_cases a1 : 1 ≤ u <;> by_cases a2 : u ≤ 200 <;> by_cases a3 : 1001 ≤ u <;> by_cases a4 : u ≤ 1040
  all_goals first
    | (exfalso; omega)
    | (have g1 : decide (1 ≤ u) = true := decide_eq_true a1
       have g2 : decide (u ≤ 200) = true := decide_eq_true a2
       obtain rfl : r = true := (by rw [← hr]; unfold isU; rw [g1, g2]; rfl)
       clear hr
       go_enter Try.func55, Try.ntmps55
       go_wp2
       go_ret
       exact ⟨by simp_all, rfl⟩)
    | (have g1 : decide (1 ≤ u) = true := decide_eq_true a1
       have g2 : decide (u ≤ 200) = false := decide_eq_false a2
       have g3 : decide (1001 ≤ u) = true := decide_eq_true a3
       have g4 : decide (u ≤ 1040) = true := decide_eq_true a4
       obtain rfl : r = true := (by rw [← hr]; unfold isU; rw [g1, g2, g3, g4]; rfl)
       clear hr
       go_enter Try.func55, Try.ntmps55
       go_wp2
       go_ret
       exact ⟨by simp_all, rfl⟩)
    | (have g1 : decide (1 ≤ u) = true := decide_eq_true a1
       have g2 : decide (u ≤ 200) = false := decide_eq_false a2
       have g3 : decide (1001 ≤ u) = true := decide_eq_true a3
       have g4 : decide (u ≤ 1040) = false := decide_eq_false a4
       obtain rfl : r = false := (by rw [← hr]; unfold isU; rw [g1, g2, g3, g4]; rfl)
       clear hr
       go_enter Try.func55, Try.ntmps55
       go_wp2
       go_ret
       exact ⟨by simp_all, rfl⟩)
    | (have g1 : decide (1 ≤ u) = true := decide_eq_true a1
       have g2 : decide (u ≤ 200) = false := decide_eq_false a2
       have g3 : decide (1001 ≤ u) = false := decide_eq_false a3
       obtain rfl : r = false := (by rw [← hr]; unfold isU; rw [g1, g2, g3]; rfl)
       clear hr
       go_enter Try.func55, Try.ntmps55
       go_wp2
       go_ret
       exact ⟨by simp_all, rfl⟩)
    | (have g1 : decide (1 ≤ u) = false := decide_eq_false a1
       have g3 : decide (1001 ≤ u) = false := decide_eq_false a3
       obtain rfl : r = false := (by rw [← hr]; unfold isU; rw [g1, g3]; rfl)
       clear hr
       go_enter Try.func55, Try.ntmps55
       go_wp2
       go_ret
       exact ⟨by simp_all, rfl⟩)
end Go.Proofs.Ytincbilobmhgeaa
