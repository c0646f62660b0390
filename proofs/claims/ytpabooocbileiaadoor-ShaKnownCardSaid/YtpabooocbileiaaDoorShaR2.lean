/-
  Blocks of the letter a, a thousand at a time. Plain mathematics.
-/
import Derived.Test.YtpabooocbileiaaDoorShaQ
namespace Go.Proofs.YtpabooocbileiaaDoor

theorem it_4 : iterB kws_A 1000 st_4 = st_5 := iter_lit _ _ ks_A_eq _ _ _ (by decide +kernel)
theorem it_5 : iterB kws_A 1000 st_5 = st_6 := iter_lit _ _ ks_A_eq _ _ _ (by decide +kernel)
theorem it_6 : iterB kws_A 1000 st_6 = st_7 := iter_lit _ _ ks_A_eq _ _ _ (by decide +kernel)
theorem it_7 : iterB kws_A 1000 st_7 = st_8 := iter_lit _ _ ks_A_eq _ _ _ (by decide +kernel)
end Go.Proofs.YtpabooocbileiaaDoor
