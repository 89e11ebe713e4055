/- The law of Late, for the medium's texts. It proves no statement. -/
import Derived.Test.YtlddmgofjeibaaaMdMap
import Derived.Test.YtlddmgofjeibaaaLate
