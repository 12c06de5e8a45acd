/-
  The page's examples, run: Encode, Decode, Text, Has and Fields give what the page says. And each function of package cmd, with its closures laid.
  Conditions: start-up's two variables are as laid.
-/
import Derived.Test.YtnddojngbolbfaaDoorEncode
import Derived.Test.YtnddojngbolbfaaDoorDecodeAny
import Derived.Test.YtnddojngbolbfaaDoorAwake
import Derived.Test.YtnddojngbolbfaaDoorRefValue
set_option linter.unusedVariables false
namespace Go.Proofs.YtnddojngbolbfaaDoor
open Go.RowKit Go.Extern.Stop Go.Stop Go.Extern

theorem egFields : EG 27 := enters_of Tryd.func27 (by kernel_rfl) rfl
theorem egFirst : EG 41 := enters_of Tryd.func41 (by kernel_rfl) rfl
theorem egCheck : EG 22 := enters_of Tryd.func22 (by kernel_rfl) rfl
theorem egEncode : EG 30 := enters_of Tryd.func30 (by kernel_rfl) rfl
theorem egDecode : EG 34 := enters_of Tryd.func34 (by kernel_rfl) rfl

theorem fields_law (op : Int) (w : World) : Calls Tryd.prog 12 #[.int .i64 op] w (RetB (.int .i64 (fieldsN op)) w) := fields_any egFields op w
theorem check_law (c : Cmd8) (w : World) (hg : EType w) : Calls Tryd.prog 10 #[.agg (cmdA c)] w (RetE (checkK c) w) := check_any egFields egFirst egCheck c w hg
theorem encode_law (c : Cmd8) (w : World) (hg : EType w) : Calls Tryd.prog 14 #[.agg (cmdA c)] w (EncP c w) := encode_any egFields egFirst egCheck egEncode c w hg
theorem decode_law (v : Value) (bs : List Nat) (w : World) (hv : BytesAt w v bs) (hl : bs.length ≤ 100000) : Calls Tryd.prog 16 #[v] w (DecP bs w) := decode_any egFields egFirst egDecode v bs w hv hl

def awakeC : Cmd8 := fun k => if k = 0 then 1 else if k = 1 then 7 else if k = 3 then 3 else 0
theorem awake_check : checkK awakeC = [] := by decide +kernel
theorem awake_bytes : encC awakeC = [1, 3, 7] := by
  have e : encC awakeC = 1 :: (enc 3 ++ (enc 7 ++ [])) := rfl
  rw [e, enc_small (by decide), enc_small (by decide)]
  rfl
theorem awake_decode : decodeT [1, 3, 128] = (zeroC, [(3, cmdS, 1), (3, fieldS, 2)]) := by
  have hf : fieldsT ((1 : Nat) : Int) = some [3, 1] := rfl
  have hk : firstK (rdE [3, 1] (opC ((1 : Nat) : Int)) [3, 128]) [3, 1].length = [(3, fieldS, 2)] := by decide +kernel
  unfold decodeT
  simp only [hf, hk]
  rfl

def cmd1 (b : Nat) : Item := ⟨b, 3, cmdS, 1⟩
def field2 (b : Nat) : Item := ⟨b, 3, fieldS, 2⟩
theorem awake_text (b c : Nat) : FtextOf [cmd1 b, field2 c] = [99, 109, 100, 32, 49, 32, 35, 51, 58, 32, 102, 105, 101, 108, 100, 32, 50, 32, 35, 51] := by
  have e1 : Lib.itoa 1 = [49] := by rw [Lib.itoa, if_neg (by omega), Lib.decDigits_one (by decide)]; rfl
  have e3 : Lib.itoa 3 = [51] := by rw [Lib.itoa, if_neg (by omega), Lib.decDigits_one (by decide)]; rfl
  have e2 : Lib.itoa 2 = [50] := by rw [Lib.itoa, if_neg (by omega), Lib.decDigits_one (by decide)]; rfl
  simp [FtextOf, linkText, cmd1, field2, cmdS, fieldS, Lib.join, List.intercalate, e1, e3, e2]

theorem two_items {is : List Item} (h : is.map (fun i => (i.code, i.part, i.pos)) = [(3, cmdS, 1), (3, fieldS, 2)]) : ∃ b c, is = [cmd1 b, field2 c] := by
  match is, h with
  | [⟨b, _, _, _⟩, ⟨c, _, _, _⟩], h =>
    simp only [List.map_cons, List.map_nil, List.cons.injEq, Prod.mk.injEq, and_true] at h
    obtain ⟨⟨rfl, rfl, rfl⟩, rfl, rfl, rfl⟩ := h
    exact ⟨b, c, rfl⟩

set_option maxRecDepth 100000 in
set_option maxHeartbeats 4000000 in
theorem awake_any (w : World) (he : Env w) : Calls Tryd.prog 13 #[] w (Ans true w) := by
  have HEN := Lib.hid (encode_law awakeC w he.e)
  have HE := Lib.hid he
  clear he
  go_enter Tryd.func13, Tryd.ntmps13
  go_wp2_with fail
  refine HEN.out.mono ?_
  rintro e w1 ⟨v1, u1, rfl, hb1, h⟩
  rcases h with ⟨_, rfl, hown⟩ | ⟨h, _⟩
  case inr => exact absurd awake_check h
  rw [awake_bytes] at hown
  have HO1 := Lib.hid hown.bytes
  have HB1 := Lib.hid hb1
  have hlit : BytesAt (w1.alloc (.cells #[.int .u8 1, .int .u8 3, .int .u8 128] 5)) (.slice (some ⟨w1.heap.size, 0, none⟩) 3 3) [1, 3, 128] := (lit_own w1 [1, 3, 128] (by decide) (by decide) w1.heap.size (Nat.le_refl _)).bytes
  have hb2 : Below w1.heap.size w1 (w1.alloc (.cells #[.int .u8 1, .int .u8 3, .int .u8 128] 5)) := (Below.refl _ _).alloc (Nat.le_refl _) _
  have HD := Lib.hid (decode_law _ _ _ hlit (by decide))
  have HB2 := Lib.hid (HB1.out.trans (hb2.mono HB1.out.size))
  have HO2 := Lib.hid (HO1.out.keep hb2)
  clear hown hb1 hlit hb2
  go_wp2_with fail
  refine HD.out.mono ?_
  rintro e w3 ⟨u, rfl, herr, hb3⟩
  rw [awake_decode] at *
  obtain ⟨is, hch, _, hkeys⟩ := herr
  obtain ⟨b, c, rfl⟩ := two_items hkeys
  have HCH := Lib.hid hch
  have hev : u ≠ .nilIface := by rintro rfl; cases hch
  have HEV := Lib.hid hev
  have HO3 := Lib.hid (HO2.out.keep hb3)
  have HB3 := Lib.hid (HB2.out.trans (hb3.mono HB2.out.size))
  clear hkeys hb3 hch hev
  simp only [cmdA, zeroC]
  have hb4 : Below w3.heap.size w3 (w3.alloc (.cells #[.int .i64 0, .int .i64 0, .int .i64 0, .int .i64 0, .int .i64 0, .int .i64 0, .int .i64 0, .int .i64 0] 23)) := (Below.refl _ _).alloc (Nat.le_refl _) _
  have HO4 := Lib.hid (HO3.out.keep hb4)
  have HB4 := Lib.hid (HB3.out.trans (hb4.mono HB3.out.size))
  have HCH4 := Lib.hid (HCH.out.later hb4)
  clear hb4
  go_upto_region 3 with fail
  generalize w3.alloc (.cells #[.int .i64 0, .int .i64 0, .int .i64 0, .int .i64 0, .int .i64 0, .int .i64 0, .int .i64 0, .int .i64 0] 23) = w4 at *
  have hb5 : Below w4.heap.size w4 (w4.alloc (.cells #[.int .u8 1, .int .u8 3, .int .u8 7] 5)) := (Below.refl _ _).alloc (Nat.le_refl _) _
  have hlit : BytesAt (w4.alloc (.cells #[.int .u8 1, .int .u8 3, .int .u8 7] 5)) (.slice (some ⟨w4.heap.size, 0, none⟩) 3 3) [1, 3, 7] := (lit_own w4 [1, 3, 7] (by decide) (by decide) w4.heap.size (Nat.le_refl _)).bytes
  have e1 := conv_text (P := Tryd.prog) (dst := 9) HO4.out Tryd.underlying34 Tryd.underlying5 Tryd.underlying9
  have e2 := conv_text (P := Tryd.prog) (dst := 9) hlit Tryd.underlying34 Tryd.underlying5 Tryd.underlying9
  have HB5 := Lib.hid (HB4.out.trans (hb5.mono HB4.out.size))
  have he5 := HE.out.later HB5.out
  have hok : ∀ i ∈ [cmd1 b, field2 c], i.ok := by
    intro i hi
    simp at hi
    rcases hi with rfl | rfl <;> simp [Item.ok, cmd1, field2, cmdS, fieldS, I64, ByteArray.size]
  have HT := Lib.hid (text_some _ _ _ (HCH4.out.later hb5) HEV.out he5.e he5.t he5.z (by simp) (by simp) hok)
  rw [awake_text] at HT
  have HH := Lib.hid (show ∀ w', Below (w4.alloc (.cells #[.int .u8 1, .int .u8 3, .int .u8 7] 5)).heap.size (w4.alloc (.cells #[.int .u8 1, .int .u8 3, .int .u8 7] 5)) w' → Calls Tryd.prog 29 #[u, .int .i64 3] w' (Ans true w') from
    fun w' hb => (has_code _ _ 3 w' ((HCH4.out.later hb5).later hb) (he5.later hb).e (by simp) (by decide)).mono fun e w'' h => ⟨h.1, h.2⟩)
  have hE := fun W => run_eql_nil_nil (P := Tryd.prog) W 27 (by kernel_rfl)
  generalize textOf [1, 3, 7] = tx at *
  clear hb5 hlit he5 hok
  go_wp2_with fail
  refine HT.out.mono ?_
  rintro e w6 ⟨rfl, hb6⟩
  go_wp2_with fail
  refine (HH.out w6 hb6).mono ?_
  rintro e w7 ⟨rfl, hb7⟩
  have HB7 := Lib.hid (HB5.out.trans ((hb6.trans (hb7.mono hb6.size)).mono HB5.out.size))
  clear hb6 hb7
  go_wp2_with fail
  refine (fields_law 9 w7).mono ?_
  rintro e w8 ⟨rfl, hb8⟩
  have hf9 : fieldsN 9 = 4 := rfl
  rw [hf9]
  have HB8 := Lib.hid (HB7.out.trans (hb8.mono HB7.out.size))
  clear hb8
  go_wp2
  go_ret
  exact ⟨rfl, HB8.out⟩
end Go.Proofs.YtnddojngbolbfaaDoor
