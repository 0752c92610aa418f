/-
  What is proved: package step's Prefix (P14.1), and strings.CutPrefix and strings.HasPrefix, called with any texts of bounded lengths, return what the chapter, and their documentation, say; the world stays.
  package schema's FieldRight of layer 11 (P11.1), called with any field of bounded texts, returns what that says; path's questions with Kept; the world has new blocks at most.
  package schema's Under of layer 11 (P11.5), called with any schema and path of bounded texts, returns what that says; the world has new blocks at most.
-/
import Derived.Test.YtofnpifooaijcaaGreatM7
import Derived.Test.YtofnpifooaijcaaGreatM10
import Derived.Test.YtofnpifooaijcaaGreatM11
import Derived.Test.YtofnpifooaijcaaGreatM12
import Derived.Test.YtofnpifooaijcaaGreatM3
import Derived.Test.YtofnpifooaijcaaGreatM9
namespace Go.Proofs.YtofnpifooaijcaaGreat
open Go.RowKit
set_option linter.unusedVariables false
theorem joi_app : ∀ (l m : List Sg), l ≠ [] → m ≠ [] → L4.joi (l ++ m) = L4.joi l ++ 47 :: L4.joi m
  | [], _, h, _ => absurd rfl h
  | [a], [], _, h => absurd rfl h
  | [a], b :: r, _, _ => by rw [List.singleton_append, L4.joi_cons2, L4.joi_one]
  | a :: b :: r, m, _, hm => by rw [List.cons_append, List.cons_append, L4.joi_cons2, L4.joi_cons2, ← List.cons_append, joi_app (b :: r) m (by simp) hm, List.append_assoc, List.cons_append]
theorem spl_app (a r : List UInt8) : L4.spl (a ++ 47 :: r) = L4.spl a ++ L4.spl r := by
  have h := L4.spl_joi (L4.spl a ++ L4.spl r) (by simp [L4.spl_ne]) (fun s hs => by
    rcases List.mem_append.1 hs with hs | hs
    · exact L4.spl_no _ s hs
    · exact L4.spl_no _ s hs)
  rwa [joi_app _ _ (L4.spl_ne _) (L4.spl_ne _), L4.joi_spl, L4.joi_spl] at h
theorem pre_bytes {p q : ByteArray} : preS p q ↔ ∃ r, p.data.toList = q.data.toList ++ r ∧ (r = [] ∨ ∃ r', r = 47 :: r') := by
  unfold preS sL
  constructor
  · rintro ⟨m, hm⟩
    by_cases h : m = []
    · subst h
      rw [List.append_nil] at hm
      refine ⟨[], ?_, .inl rfl⟩
      rw [List.append_nil, ← L4.joi_spl p.data.toList, ← hm, L4.joi_spl]
    · refine ⟨47 :: L4.joi m, ?_, .inr ⟨_, rfl⟩⟩
      rw [← L4.joi_spl p.data.toList, ← hm, joi_app _ _ (L4.spl_ne _) h, L4.joi_spl]
  · rintro ⟨r, hr, rfl | ⟨r', rfl⟩⟩
    · rw [hr, List.append_nil]
      exact List.prefix_refl _
    · rw [hr, spl_app]
      exact List.prefix_append _ _
theorem ext_take {s : ByteArray} {k : Nat} : (s.extract 0 k).data.toList = s.data.toList.take k := by rw [Lib.extract_data, List.drop_zero, Nat.sub_zero]
theorem ext_drop {s : ByteArray} {k : Nat} : (s.extract k s.size).data.toList = s.data.toList.drop k := by
  rw [Lib.extract_data]
  exact List.take_of_length_le (by rw [List.length_drop]; exact Nat.le_refl _)
set_option maxHeartbeats 4000000 in
theorem hasp_any (s q : ByteArray) (r : Bool) (hr : r = true ↔ q.data.toList <+: s.data.toList) (hs : s.size ≤ 1099511627776) (hq : q.size ≤ 1099511627776) (w : World) :
    Calls Tryz.prog 117 #[.string s, .string q] w fun e w' => e = .returned (.bool r) ∧ w = w' := by
  have zs : s.data.toList.length = s.size := rfl
  have zq : q.data.toList.length = q.size := rfl
  by_cases hle : q.size ≤ s.size
  · have h1 : ((s.extract 0 q.size).toList == q.toList) = r := by
      rw [L4.str_eq, ext_take, ← zq]
      rw [Bool.eq_iff_iff, hr, List.prefix_iff_eq_take]
      simp only [beq_iff_eq]
      exact eq_comm
    have H1 := Lib.hid h1
    clear h1 hr zs zq
    go_enter Tryz.func117, Tryz.ntmps117
    go_wp2
    go_ret
    exact ⟨congrArg (fun z => Ending.returned (.bool z)) H1.out, rfl⟩
  · have h1 : false = r := by
      cases r with
      | false => rfl
      | true => exact absurd (hr.1 rfl).length_le (by omega)
    have H1 := Lib.hid h1
    clear h1 hr zs zq
    go_enter Tryz.func117, Tryz.ntmps117
    go_wp2
    go_ret
    exact ⟨congrArg (fun z => Ending.returned (.bool z)) H1.out, rfl⟩
set_option maxHeartbeats 4000000 in
theorem shasp_any (s q : ByteArray) (r : Bool) (hr : r = true ↔ q.data.toList <+: s.data.toList) (hs : s.size ≤ 1099511627776) (hq : q.size ≤ 1099511627776) (w : World) :
    Calls Tryz.prog 56 #[.string s, .string q] w fun e w' => e = .returned (.bool r) ∧ w = w' := by
  have A1 := Lib.hid (fun w => hasp_any s q r hr hs hq w)
  clear hr
  go_enter Tryz.func56, Tryz.ntmps56
  go_wp2_with fail
  go_at_call 117
  refine (A1.out _).mono ?_
  rintro e w1 ⟨rfl, rfl⟩
  go_wp2_with fail
  go_ret
  exact ⟨rfl, rfl⟩
set_option maxHeartbeats 4000000 in
theorem cutp_any (s q : ByteArray) (r : Bool) (hr : r = true ↔ q.data.toList <+: s.data.toList) (t : ByteArray) (ht : (if r = true then s.extract q.size s.size else s) = t) (hs : s.size ≤ 1099511627776) (hq : q.size ≤ 1099511627776) (w : World) :
    Calls Tryz.prog 116 #[.string s, .string q] w fun e w' => e = .returned (.tuple #[.string t, .bool r]) ∧ w = w' := by
  have A1 := Lib.hid (fun w => hasp_any s q r hr hs hq w)
  have hle : r = true → q.size ≤ s.size := fun h => (hr.1 h).length_le
  clear hr
  cases r with
  | false =>
    have HT := Lib.hid (show s = t by rw [← ht]; rfl)
    clear ht hle
    go_enter Tryz.func116, Tryz.ntmps116
    go_wp2_with fail
    go_at_call 117
    refine (A1.out _).mono ?_
    rintro e w1 ⟨rfl, rfl⟩
    go_wp2_with fail
    go_ret2
    exact ⟨congrArg (fun z => Ending.returned (.tuple #[.string z, .bool false])) HT.out, rfl⟩
  | true =>
    have HT := Lib.hid (show s.extract q.size s.size = t by rw [← ht]; rfl)
    have hle2 : q.size ≤ s.size := hle rfl
    clear ht hle
    go_enter Tryz.func116, Tryz.ntmps116
    go_wp2_with fail
    go_at_call 117
    refine (A1.out _).mono ?_
    rintro e w1 ⟨rfl, rfl⟩
    go_wp2_with fail
    go_ret2
    exact ⟨congrArg (fun z => Ending.returned (.tuple #[.string z, .bool true])) HT.out, rfl⟩
set_option maxHeartbeats 4000000 in
theorem scutp_any (s q : ByteArray) (r : Bool) (hr : r = true ↔ q.data.toList <+: s.data.toList) (t : ByteArray) (ht : (if r = true then s.extract q.size s.size else s) = t) (hs : s.size ≤ 1099511627776) (hq : q.size ≤ 1099511627776) (w : World) :
    Calls Tryz.prog 55 #[.string s, .string q] w fun e w' => e = .returned (.tuple #[.string t, .bool r]) ∧ w = w' := by
  have A1 := Lib.hid (fun w => cutp_any s q r hr t ht hs hq w)
  clear hr ht
  go_enter Tryz.func55, Tryz.ntmps55
  go_wp2_with fail
  go_at_call 116
  refine (A1.out _).mono ?_
  rintro e w1 ⟨rfl, rfl⟩
  go_wp2_with fail
  go_ret2
  exact ⟨rfl, rfl⟩
theorem pre_behind {p q : ByteArray} (h : q.data.toList <+: p.data.toList) : preS p q ↔ (p.extract q.size p.size).data.toList = [] ∨ [47] <+: (p.extract q.size p.size).data.toList := by
  rw [ext_drop, pre_bytes]
  obtain ⟨r, hr⟩ := h
  have e : p.data.toList.drop q.size = r := by rw [← hr]; exact List.drop_left
  rw [e]
  constructor
  · rintro ⟨r', h1, h2⟩
    have : r' = r := List.append_cancel_left (h1.symm.trans hr.symm)
    subst this
    rcases h2 with h2 | ⟨r2, h2⟩
    · exact .inl h2
    · exact .inr ⟨r2, by rw [h2]; rfl⟩
  · rintro (h | ⟨r2, h2⟩)
    · exact ⟨r, hr.symm, .inl h⟩
    · exact ⟨r, hr.symm, .inr ⟨r2, by rw [← h2]; rfl⟩⟩
set_option maxHeartbeats 4000000 in
theorem spre_any (p q : ByteArray) (hp : p.size ≤ 1099511627776) (hq : q.size ≤ 1099511627776) (r : Bool) (hr : r = true ↔ preS p q) (w : World) :
    Calls Tryz.prog 14 #[.string p, .string q] w fun e w' => e = .returned (.bool r) ∧ w = w' := by
  by_cases h : q.data.toList <+: p.data.toList
  · have A1 := Lib.hid (fun w => scutp_any p q true (by simp [h]) (p.extract q.size p.size) rfl hp hq w)
    have hpb := pre_behind h
    obtain ⟨t, ht⟩ : ∃ t, p.extract q.size p.size = t := ⟨_, rfl⟩
    have htz : t.size ≤ p.size := by rw [← ht, ByteArray.size_extract]; omega
    rw [ht] at A1 hpb
    by_cases h0 : t.data.toList = []
    · have HR := Lib.hid (show true = r by rw [eq_comm, hr, hpb]; exact .inl h0)
      have e0 : t.toList = [] := by rw [Lib.toList_data]; exact h0
      clear hr hpb h0 h ht
      go_enter Tryz.func14, Tryz.ntmps14
      go_wp2_with fail
      go_at_call 55
      refine (A1.out _).mono ?_
      rintro e w1 ⟨rfl, rfl⟩
      go_wp2_with fail
      go_ret
      exact ⟨congrArg (fun z => Ending.returned (.bool z)) HR.out, rfl⟩
    · have A2 := Lib.hid (fun w => shasp_any t ⟨#[47]⟩ r (by rw [hr, hpb]; exact ⟨fun k => k.resolve_left h0, .inr⟩) (by omega) (by decide) w)
      have e0 : t.toList ≠ [] := by rw [Lib.toList_data]; exact h0
      have e1 : t.toList.isEmpty = false := by rw [List.isEmpty_eq_false_iff]; exact e0
      have e2 : (t.toList == []) = false := by simpa using e0
      clear hr hpb h0 h ht
      go_enter Tryz.func14, Tryz.ntmps14
      go_wp2_with fail
      go_at_call 55
      refine (A1.out _).mono ?_
      rintro e w1 ⟨rfl, rfl⟩
      go_wp2_with fail
      go_at_call 56
      refine (A2.out _).mono ?_
      rintro e w1 ⟨rfl, rfl⟩
      go_wp2_with fail
      go_ret
      exact ⟨rfl, rfl⟩
  · have A1 := Lib.hid (fun w => scutp_any p q false (by simp [h]) p rfl hp hq w)
    have HR := Lib.hid (show false = r by
      cases r with
      | false => rfl
      | true =>
        obtain ⟨r', h1, _⟩ := pre_bytes.1 (hr.1 rfl)
        exact absurd ⟨r', h1.symm⟩ h)
    clear hr h
    go_enter Tryz.func14, Tryz.ntmps14
    go_wp2_with fail
    go_at_call 55
    refine (A1.out _).mono ?_
    rintro e w1 ⟨rfl, rfl⟩
    go_wp2_with fail
    go_ret
    exact ⟨congrArg (fun z => Ending.returned (.bool z)) HR.out, rfl⟩
theorem patK (p : ByteArray) (b : Bool) (h : L4.patS p = b) (hp : p.size ≤ 1099511627776) (w : World) :
    Calls Tryz.prog 126 #[.string p] w fun e w' => e = .returned (.bool b) ∧ Kept w w' := by
  subst h
  exact (L4.pat_any p w hp).mono fun _ _ ⟨he, hk⟩ => ⟨he, kept_of_below hk⟩
theorem matK (p q : ByteArray) (b : Bool) (h : L4.matS p q = b) (hp : p.size ≤ 1099511627776) (hq : q.size ≤ 1099511627776) (w : World) :
    Calls Tryz.prog 82 #[.string p, .string q] w fun e w' => e = .returned (.bool b) ∧ Kept w w' := by
  subst h
  exact (L4.mat_any p q w hp hq).mono fun _ _ ⟨he, hk⟩ => ⟨he, kept_of_below hk⟩
theorem apK (p q : ByteArray) (b : Bool) (h : L4.apS p q = b) (hp : p.size ≤ 1099511627776) (hq : q.size ≤ 1099511627776) (w : World) :
    Calls Tryz.prog 128 #[.string p, .string q] w fun e w' => e = .returned (.bool b) ∧ Kept w w' := by
  subst h
  exact (L4.ap_any p q w hp hq).mono fun _ _ ⟨he, hk⟩ => ⟨he, kept_of_below hk⟩
set_option maxRecDepth 100000 in
set_option maxHeartbeats 8000000 in
theorem sfv_l (p : ByteArray) (k t vk vn : Int) (vt : ByteArray) (w : World) (ht : vt.size ≤ 1099511627776) :
    Calls Tryz.prog 127 #[.agg #[.string p, .int .i64 k, .int .i64 t, .int .i64 vk, .int .i64 vn, .string vt]] w fun e w' => e = .returned (.bool (kindF (⟨p, k, t, vk, vn, vt⟩ : Fd))) ∧ Kept w w' := by
  by_cases n1 : k = 1
  · subst n1
    obtain ⟨vr, hvr⟩ : ∃ r, rightB vk vn vt = r := ⟨_, rfl⟩
    cases vr with
    | false =>
      have HR := Lib.hid (show false = kindF (⟨p, 1, t, vk, vn, vt⟩ : Fd) by unfold kindF zeroF; rw [hvr]; simp)
      have HK := Lib.hid ((Kept.refl w).alloc #[.string p, .int .i64 1, .int .i64 t, .int .i64 vk, .int .i64 vn, .string vt] 28)
      have HB := Lib.hid (FdB.new w (⟨p, 1, t, vk, vn, vt⟩ : Fd) 28)
      have A2 := Lib.hid (fun w => vright_c vk vn vt false hvr w (by omega))
      clear ht hvr
      go_enter Tryz.func127, Tryz.ntmps127
      go_wp2_with fail
      go_at_call 105
      refine (A2.out _).mono ?_
      rintro e w2 ⟨rfl, hg⟩
      have hk := kept_of hg
      have hb := HB.out.kept hk
      replace HK := Lib.hid (HK.out.trans hk)
      clear hg hk
      have b1 := hb.c1; have b2 := hb.c2; have b3 := hb.c3; have b4 := hb.c4; have b5 := hb.c5
      simp only at b1 b2 b3 b4 b5
      clear hb
      go_wp2_with fail
      go_ret
      exact ⟨ret_bool HR.out, HK.out⟩
    | true =>
      by_cases ht1 : vk = t
      · have et : (vk == t) = true := beq_iff_eq.2 ht1
        have HR := Lib.hid (show true = kindF (⟨p, 1, t, vk, vn, vt⟩ : Fd) by unfold kindF zeroF; rw [hvr]; simp [ht1])
        have HK := Lib.hid ((Kept.refl w).alloc #[.string p, .int .i64 1, .int .i64 t, .int .i64 vk, .int .i64 vn, .string vt] 28)
        have HB := Lib.hid (FdB.new w (⟨p, 1, t, vk, vn, vt⟩ : Fd) 28)
        have A2 := Lib.hid (fun w => vright_c vk vn vt true hvr w (by omega))
        clear ht hvr ht1
        go_enter Tryz.func127, Tryz.ntmps127
        go_wp2_with fail
        go_at_call 105
        refine (A2.out _).mono ?_
        rintro e w2 ⟨rfl, hg⟩
        have hk := kept_of hg
        have hb := HB.out.kept hk
        replace HK := Lib.hid (HK.out.trans hk)
        clear hg hk
        have b1 := hb.c1; have b2 := hb.c2; have b3 := hb.c3; have b4 := hb.c4; have b5 := hb.c5
        simp only at b1 b2 b3 b4 b5
        clear hb
        go_wp2_with fail
        go_ret
        exact ⟨ret_bool HR.out, HK.out⟩
      · have et : (vk == t) = false := by simpa using ht1
        have HR := Lib.hid (show false = kindF (⟨p, 1, t, vk, vn, vt⟩ : Fd) by unfold kindF zeroF; rw [hvr]; simp [ht1])
        have HK := Lib.hid ((Kept.refl w).alloc #[.string p, .int .i64 1, .int .i64 t, .int .i64 vk, .int .i64 vn, .string vt] 28)
        have HB := Lib.hid (FdB.new w (⟨p, 1, t, vk, vn, vt⟩ : Fd) 28)
        have A2 := Lib.hid (fun w => vright_c vk vn vt true hvr w (by omega))
        clear ht hvr ht1
        go_enter Tryz.func127, Tryz.ntmps127
        go_wp2_with fail
        go_at_call 105
        refine (A2.out _).mono ?_
        rintro e w2 ⟨rfl, hg⟩
        have hk := kept_of hg
        have hb := HB.out.kept hk
        replace HK := Lib.hid (HK.out.trans hk)
        clear hg hk
        have b1 := hb.c1; have b2 := hb.c2; have b3 := hb.c3; have b4 := hb.c4; have b5 := hb.c5
        simp only at b1 b2 b3 b4 b5
        clear hb
        go_wp2_with fail
        go_ret
        exact ⟨ret_bool HR.out, HK.out⟩
  · by_cases n2 : k = 2
    · subst n2
      clear n1
      by_cases g1 : 1 ≤ t
      · have t1 : decide (1 ≤ t) = true := decide_eq_true g1
        by_cases g2 : t ≤ 3
        · have t2 : decide (t ≤ 3) = true := decide_eq_true g2
          have hz := zero_val (⟨p, 2, t, vk, vn, vt⟩ : Fd)
          simp only at hz
          rcases hz with ⟨h1, h2, h3, hzf⟩ | ⟨hzf, q1 | ⟨q1, q2⟩ | ⟨q1, q2, q3, q4, q5⟩⟩
          · subst h1 h2 h3
            have HR := Lib.hid (show true = kindF (⟨p, 2, t, 0, 0, ⟨#[]⟩⟩ : Fd) by unfold kindF; rw [hzf]; simp [g1, g2])
            have HK := Lib.hid ((Kept.refl w).alloc #[.string p, .int .i64 2, .int .i64 t, .int .i64 0, .int .i64 0, .string ⟨#[]⟩] 28)
            clear ht g1 g2 hzf
            go_enter Tryz.func127, Tryz.ntmps127
            go_wp2_with fail
            go_ret
            exact ⟨ret_bool HR.out, HK.out⟩
          · have HR := Lib.hid (show false = kindF (⟨p, 2, t, vk, vn, vt⟩ : Fd) by unfold kindF; rw [hzf]; simp)
            have HK := Lib.hid ((Kept.refl w).alloc #[.string p, .int .i64 2, .int .i64 t, .int .i64 vk, .int .i64 vn, .string vt] 28)
            clear ht g1 g2 hzf
            go_enter Tryz.func127, Tryz.ntmps127
            go_wp2_with fail
            go_ret
            exact ⟨ret_bool HR.out, HK.out⟩
          · have HR := Lib.hid (show false = kindF (⟨p, 2, t, vk, vn, vt⟩ : Fd) by unfold kindF; rw [hzf]; simp)
            have HK := Lib.hid ((Kept.refl w).alloc #[.string p, .int .i64 2, .int .i64 t, .int .i64 vk, .int .i64 vn, .string vt] 28)
            clear ht g1 g2 hzf
            go_enter Tryz.func127, Tryz.ntmps127
            go_wp2_with fail
            go_ret
            exact ⟨ret_bool HR.out, HK.out⟩
          · have HR := Lib.hid (show false = kindF (⟨p, 2, t, vk, vn, vt⟩ : Fd) by unfold kindF; rw [hzf]; simp)
            have HK := Lib.hid ((Kept.refl w).alloc #[.string p, .int .i64 2, .int .i64 t, .int .i64 vk, .int .i64 vn, .string vt] 28)
            clear ht g1 g2 hzf
            go_enter Tryz.func127, Tryz.ntmps127
            go_wp2_with fail
            go_ret
            exact ⟨ret_bool HR.out, HK.out⟩
        · have t2 : decide (t ≤ 3) = false := decide_eq_false g2
          have HR := Lib.hid (show false = kindF (⟨p, 2, t, vk, vn, vt⟩ : Fd) by unfold kindF zeroF; simp [g2])
          have HK := Lib.hid ((Kept.refl w).alloc #[.string p, .int .i64 2, .int .i64 t, .int .i64 vk, .int .i64 vn, .string vt] 28)
          clear ht g1 g2
          go_enter Tryz.func127, Tryz.ntmps127
          go_wp2_with fail
          go_ret
          exact ⟨ret_bool HR.out, HK.out⟩
      · have t1 : decide (1 ≤ t) = false := decide_eq_false g1
        have HR := Lib.hid (show false = kindF (⟨p, 2, t, vk, vn, vt⟩ : Fd) by unfold kindF zeroF; simp [g1])
        have HK := Lib.hid ((Kept.refl w).alloc #[.string p, .int .i64 2, .int .i64 t, .int .i64 vk, .int .i64 vn, .string vt] 28)
        clear ht g1
        go_enter Tryz.func127, Tryz.ntmps127
        go_wp2_with fail
        go_ret
        exact ⟨ret_bool HR.out, HK.out⟩
    · by_cases n3 : k = 3
      · subst n3
        clear n1 n2
        by_cases g1 : t = 1
        · have t1 : (t == 1) = true := beq_iff_eq.2 g1
          have hz := zero_val (⟨p, 3, t, vk, vn, vt⟩ : Fd)
          simp only at hz
          rcases hz with ⟨h1, h2, h3, hzf⟩ | ⟨hzf, q1 | ⟨q1, q2⟩ | ⟨q1, q2, q3, q4, q5⟩⟩
          · subst h1 h2 h3
            have HR := Lib.hid (show true = kindF (⟨p, 3, t, 0, 0, ⟨#[]⟩⟩ : Fd) by unfold kindF; rw [hzf]; simp [g1])
            have HK := Lib.hid ((Kept.refl w).alloc #[.string p, .int .i64 3, .int .i64 t, .int .i64 0, .int .i64 0, .string ⟨#[]⟩] 28)
            clear ht g1 hzf
            go_enter Tryz.func127, Tryz.ntmps127
            go_wp2_with fail
            go_ret
            exact ⟨ret_bool HR.out, HK.out⟩
          · have HR := Lib.hid (show false = kindF (⟨p, 3, t, vk, vn, vt⟩ : Fd) by unfold kindF; rw [hzf]; simp)
            have HK := Lib.hid ((Kept.refl w).alloc #[.string p, .int .i64 3, .int .i64 t, .int .i64 vk, .int .i64 vn, .string vt] 28)
            clear ht g1 hzf
            go_enter Tryz.func127, Tryz.ntmps127
            go_wp2_with fail
            go_ret
            exact ⟨ret_bool HR.out, HK.out⟩
          · have HR := Lib.hid (show false = kindF (⟨p, 3, t, vk, vn, vt⟩ : Fd) by unfold kindF; rw [hzf]; simp)
            have HK := Lib.hid ((Kept.refl w).alloc #[.string p, .int .i64 3, .int .i64 t, .int .i64 vk, .int .i64 vn, .string vt] 28)
            clear ht g1 hzf
            go_enter Tryz.func127, Tryz.ntmps127
            go_wp2_with fail
            go_ret
            exact ⟨ret_bool HR.out, HK.out⟩
          · have HR := Lib.hid (show false = kindF (⟨p, 3, t, vk, vn, vt⟩ : Fd) by unfold kindF; rw [hzf]; simp)
            have HK := Lib.hid ((Kept.refl w).alloc #[.string p, .int .i64 3, .int .i64 t, .int .i64 vk, .int .i64 vn, .string vt] 28)
            clear ht g1 hzf
            go_enter Tryz.func127, Tryz.ntmps127
            go_wp2_with fail
            go_ret
            exact ⟨ret_bool HR.out, HK.out⟩
        · have t1 : (t == 1) = false := by simpa using g1
          have HR := Lib.hid (show false = kindF (⟨p, 3, t, vk, vn, vt⟩ : Fd) by unfold kindF zeroF; simp [g1])
          have HK := Lib.hid ((Kept.refl w).alloc #[.string p, .int .i64 3, .int .i64 t, .int .i64 vk, .int .i64 vn, .string vt] 28)
          clear ht g1
          go_enter Tryz.func127, Tryz.ntmps127
          go_wp2_with fail
          go_ret
          exact ⟨ret_bool HR.out, HK.out⟩
      · have e1 : (k == 1) = false := by simpa using n1
        have e2 : (k == 2) = false := by simpa using n2
        have e3 : (k == 3) = false := by simpa using n3
        have HR := Lib.hid (show false = kindF (⟨p, k, t, vk, vn, vt⟩ : Fd) by unfold kindF zeroF; simp [n1, n2, n3])
        have HK := Lib.hid ((Kept.refl w).alloc #[.string p, .int .i64 k, .int .i64 t, .int .i64 vk, .int .i64 vn, .string vt] 28)
        clear ht n1 n2 n3
        go_enter Tryz.func127, Tryz.ntmps127
        go_wp2_with fail
        go_ret
        exact ⟨ret_bool HR.out, HK.out⟩
theorem sfv_any (x : Fd) (w : World) (ht : x.vt.size ≤ 1099511627776) :
    Calls Tryz.prog 127 #[.agg #[.string x.p, .int .i64 x.k, .int .i64 x.t, .int .i64 x.vk, .int .i64 x.vn, .string x.vt]] w fun e w' => e = .returned (.bool (kindF x)) ∧ Kept w w' := sfv_l x.p x.k x.t x.vk x.vn x.vt w ht
set_option maxRecDepth 100000 in
set_option maxHeartbeats 8000000 in
theorem sfr_any (x : Fd) (w : World) (hp : x.p.size ≤ 1099511627776) (ht : x.vt.size ≤ 1099511627776) :
    Calls Tryz.prog 77 #[.agg #[.string x.p, .int .i64 x.k, .int .i64 x.t, .int .i64 x.vk, .int .i64 x.vn, .string x.vt]] w fun e w' => e = .returned (.bool (rightF x)) ∧ Kept w w' := by
  have HB := Lib.hid (FdB.new w x 28)
  have HK := Lib.hid ((Kept.refl w).alloc #[.string x.p, .int .i64 x.k, .int .i64 x.t, .int .i64 x.vk, .int .i64 x.vn, .string x.vt] 28)
  have AV := Lib.hid (fun w => sfv_any x w ht)
  have b0 := HB.out.c0
  cases hpat : L4.patS x.p with
  | false =>
    have A1 := Lib.hid (fun w => patK x.p false hpat hp w)
    have HR := Lib.hid (show false = rightF x by unfold rightF; rw [hpat]; rfl)
    clear hpat hp ht
    go_enter Tryz.func77, Tryz.ntmps77
    go_wp2_with fail
    go_at_call 126
    refine (A1.out _).mono ?_
    rintro e w1 ⟨rfl, hk⟩
    replace HK := Lib.hid (HK.out.trans hk)
    clear hk b0
    go_wp2_with fail
    go_ret
    exact ⟨ret_bool HR.out, HK.out⟩
  | true =>
    have A1 := Lib.hid (fun w => patK x.p true hpat hp w)
    have HR := Lib.hid (show kindF x = rightF x by unfold rightF; rw [hpat]; rfl)
    clear hpat hp ht
    go_enter Tryz.func77, Tryz.ntmps77
    go_wp2_with fail
    go_at_call 126
    refine (A1.out _).mono ?_
    rintro e w1 ⟨rfl, hk⟩
    have hb := HB.out.kept hk
    replace HK := Lib.hid (HK.out.trans hk)
    clear hk b0
    have b0 := hb.c0; have b1 := hb.c1; have b2 := hb.c2; have b3 := hb.c3; have b4 := hb.c4; have b5 := hb.c5
    clear hb
    go_wp2_with fail
    go_at_call 127
    refine (AV.out _).mono ?_
    rintro e w2 ⟨rfl, hk⟩
    replace HK := Lib.hid (HK.out.trans hk)
    clear hk b0 b1 b2 b3 b4 b5
    go_wp2_with fail
    go_ret
    exact ⟨ret_bool HR.out, HK.out⟩
theorem sfr_c (x : Fd) (b : Bool) (h : rightF x = b) (w : World) (hp : x.p.size ≤ 1099511627776) (ht : x.vt.size ≤ 1099511627776) :
    Calls Tryz.prog 77 #[.agg #[.string x.p, .int .i64 x.k, .int .i64 x.t, .int .i64 x.vk, .int .i64 x.vn, .string x.vt]] w fun e w' => e = .returned (.bool b) ∧ Kept w w' := by
  subst h; exact sfr_any x w hp ht
theorem spl_n (p : ByteArray) (n : Nat) (hn : (L4.splS p).length = n) (hp : p.size ≤ 1099511627776) (w : World) :
    Calls Tryz.prog 51 #[.string p] w fun e w' => ∃ b c, e = .returned (.slice (some ⟨b, 0, none⟩) n c) ∧ L4.Sl w' ⟨b, 0, none⟩ n c (L4.splS p) ∧ Kept w w' := by
  subst hn
  exact (L4.split_any p w hp).mono fun e w' ⟨b, c, he, hs, _, hk⟩ => ⟨b, c, he, hs, kept_of_below hk⟩
end Go.Proofs.YtofnpifooaijcaaGreat
